/- Plain lemmas of a small calculus for walks over frames and own memory; no statement of the seat is proved here. -/
import Derived.Test.YtjfmachfdpmdcaaDoorEch6
import Derived.ChangeVars
import Derived.LaidLaws
import Derived.Stop.LaidErr
set_option linter.unusedVariables false
set_option linter.unusedSimpArgs false
namespace Go.Sw
open Go Go.RowKit Go.ChangeShapes Go.WideShapes Go.ChangeAt
section
variable {H : Type} {enc : TypeId × Value → H} {P : Program} {w w' : World}
theorem var_lt {n : String} {g : Nat} {cs : Array Value} (hg : P.globalNamed n = some g) (h : w.var? P n = some cs) : g < w.heap.size := by
  unfold World.var? at h
  simp only [hg, Option.bind_some] at h
  by_cases hb : g < w.heap.size
  · exact hb
  · have hn : w.heap[g]? = none := by simp; omega
    simp [hn] at h
theorem var_ext {n : String} {g : Nat} {cs : Array Value} (hg : P.globalNamed n = some g) (h : w.var? P n = some cs) (hx : Ext w w') : w'.var? P n = some cs := by
  have hb := hx.block g (var_lt hg h)
  unfold World.var? at h ⊢
  simp only [hg, Option.bind_some] at h ⊢;rw [hb]; exact h
theorem vars_again1 (hl : laidOutB P = true) (hm : mapsRowed P = true) (hz : ((List.range P.types.size).all fun t => match P.underlying t with | some (.slice e) => decide (0 < P.cellsOf e) | _ => true) = true)
    {n : String} {gs : List (DataW H)} {q : List MemPlace} (h : DataW.TrodVars enc P w (fun _ => true) [n] gs q) (hT : ∀ g t, P.globalNamed n = some g → (P.globals[g]?).map (·.type) = some t → t < P.types.size) (hx : Ext w w')
    (hlt : ∀ p ∈ q, p.block < w.heap.size) (sp : Nat → Bool) (hsp : ∀ p ∈ q, sp p.block = true) : DataW.TrodVars enc P w' sp [n] gs q := by
  obtain ⟨g, t, cs, fuel, d, p, rfl, h1, h2, h3, h4, rfl⟩ := trodVars_one h;refine trodVars_mk1 h1 h2 (var_ext h1 h3 hx) (DataW.trod_carry fuel _ _ _ (DataW.trod_respare (kids_rows hl hm) (fun t e ht hu => slices_full_of P hz t e ht hu) fuel t cs.toList (d, p) (hT g t h1 h2) h4 (fun y hy => hsp y (List.mem_append_right _ hy))) (fun y hy => sameAt_ext hx (hlt y (List.mem_append_right _ hy))))
theorem laid_blk {n nm : String} {text : List UInt8} {r : List (String × DataW Unit)} {g : Nat} {ti tp te ts : TypeId} {ms : Array (String × TypeId)} {f : Field}
    (h : laidMet P ((n, .iface nm (.ptr (.agg [.lit (.string text)]))) :: r) w)
    (hg : P.globalNamed n = some g) (ht : (P.globals[g]?).map (·.type) = some ti) (hi : P.underlying ti = some (.interface ms)) (hrow : ∀ u, P.typeName? 3 u = some nm → u = tp)
    (hp : P.underlying tp = some (.pointer te)) (he : P.underlying te = some (.struct #[f])) (hft : f.type = ts) (hfo : f.offset = 0) (hs : P.underlying ts = some .string) (hc : P.cellsOf te = 1) (hcs : P.cellsOf ts = 1) :
    ∃ v, Blk w g #[.iface tp v] := by
  obtain ⟨a, s, hv, _⟩ := laid_sentinel h hg ht hi hrow hp he hft hfo hs hc hcs;obtain ⟨ps, ⟨g0, t0, cs0, f0, p0, q0, hg0, ht0, hv0, hd0, _, e0⟩, _, hrows⟩ := h;obtain rfl := Option.some.inj (hg.symm.trans hg0);obtain rfl := Option.some.inj (hv.symm.trans hv0);obtain ⟨c, t, hb⟩ := (hrows g 0 (by rw [e0]; simp [MemPlace.row])).1;refine ⟨.pointer (some a), t, ?_⟩
  unfold World.var? at hv
  simp only [hg, Option.bind_some, hb, Option.some.injEq] at hv;rw [hb, hv]
end
end Go.Sw
