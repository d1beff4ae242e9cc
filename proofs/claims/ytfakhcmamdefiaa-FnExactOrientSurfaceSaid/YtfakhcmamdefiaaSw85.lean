/- Plain lemmas of a small calculus for walks over frames and own memory; no statement of the seat is proved here. -/
import Derived.Test.YtfakhcmamdefiaaSw81
import Derived.LaidEql
import Derived.Test.YtfakhcmamdefiaaSw65
set_option linter.unusedVariables false
set_option linter.unusedSimpArgs false
namespace Go.Sw
open Go Go.RowKit Go.Ech
variable {P : Program}
/-! ### 'append', and what it leaves as it was: maps -/
theorem run_appendM {X : List Nat} {w0 w : World} {L : Own} {D : Froz} {T e : TypeId} {z : Value} {size bytes n k m bx ox cx : Nat} {v : Value} {ent : Option (Nat × Array Value)} {f g : Nat → Value} (hT : slI P T = some (e, some z, size, bytes)) (hz : z.cells.size = size) (hs0 : 0 < size)
    (hM : MemX X w0 w L D) (hk : L[k]? = some ent) (hv : Sl size v ent n f) (hg : ∀ i, i < m * size → w.cell? ⟨bx, ox + i, none⟩ = some (g i)) (h1 : ∀ i, i < m * size → (g i).oneCell' = true)
    (hm : 0 < m) (h63 : n + m ≤ maxLen) (hb : (n + m) * bytes ≤ 140737488355328) (ty : TypeId) :
    ∃ u w' e', (Builtin.append_ #[T, T] ty #[v, .slice (some ⟨bx, ox, none⟩) m cx]).run P w = .ok u w' ∧ MemX X w0 w' (L.set k e') D ∧ Sl size u e' (n + m) (fun i => if i < n * size then f i else g (i - n * size)) ∧ ∀ q es c, IsMap w q es c → IsMap w' q es c := by
  unfold slI at hT
  cases hu : P.underlying T with
  | none => simp [hu] at hT
  | some dd =>
    cases dd <;> simp [hu] at hT
    rename_i el
    obtain ⟨inf, hinf, rfl, hz0, hsz, hby⟩ := hT;subst hsz; subst hby
    have hm0 : n + m ≤ 9223372036854775807 := by simp only [maxLen] at h63; omega
    have hnl : (((List.range (m * inf.size)).map g)).length = m * inf.size := by simp
    have hnews : ∀ j u, ((List.range (m * inf.size)).map g)[j]? = some u → w.cell? ((⟨bx, ox, none⟩ : Addr).add j) = some u := by
      intro j u hj;have hlt : j < m * inf.size := by have := (List.getElem?_eq_some_iff.1 hj).1; simpa using this
      rw [Addr.add_lit, hg j hlt]
      simp [hlt] at hj; rw [hj]
    have hone : ∀ u ∈ (List.range (m * inf.size)).map g, u.oneCell' = true := by
      intro u hu';obtain ⟨i, hi, rfl⟩ := List.mem_map.1 hu';exact h1 i (by simpa using hi)
    rcases hv with ⟨rfl, rfl, rfl⟩ | ⟨b, cap, cs, hat⟩
    · have hr := run_append_nil (P := P) w T ty el inf z hu hinf hz0 ⟨bx, ox, none⟩ m cx _ hnl hnews hm (by omega) (by simp only [Nat.zero_add] at hb; omega)
      refine ⟨_, _, _, hr, hM.fill (heap_drew_alloc _ _) k (Blk.new w.drew _ _) (Nat.le_refl _), .inr ⟨_, _, _, ⟨by rw [Nat.zero_add]; rfl, rfl, ?_, grownCap_le_maxLen w m 0 el (by omega), ?_, ?_⟩⟩, fun q es c h => h.ext (heap_drew_alloc _ _)⟩
      · have := grownCap_ge w m 0 el; omega
      · have := grownCap_ge w m 0 el
        simp only [Array.size_append, List.size_toArray, hnl, size_zeroCells, hz, ← Nat.add_mul]
        congr 1; omega
      · intro i hi
        rw [Nat.zero_add] at hi;rw [if_neg (by simp), Array.getElem?_append, if_pos (by simpa using hi)]
        simp [hi]
    · obtain ⟨rfl, rfl, hle, hmax, hcsz, hget⟩ := hat
      have hblk := hM.row k hk
      by_cases hroom : n + m ≤ cap
      · obtain ⟨tt, hgg⟩ := hblk
        have hf := run_firstCells_some (P := P) w inf.size m ⟨bx, ox, none⟩ m cx _ hnl hnews;have hfit : n * inf.size + ((List.range (m * inf.size)).map g).length ≤ cs.size := by rw [hnl, hcsz, ← Nat.add_mul]; exact Nat.mul_le_mul_right _ hroom
        have hst := run_storeCells_at P b (n * inf.size) tt ((List.range (m * inf.size)).map g) 0 cs w hgg (by simpa using hfit) hone;simp only [Nat.add_zero] at hst;have hr : (Builtin.append_ #[T, T] ty #[.slice (some ⟨b, 0, none⟩) n cap, .slice (some ⟨bx, ox, none⟩) m cx]).run P w = .ok (.slice (some ⟨b, 0, none⟩) (n + m) cap) (w.setRow b (splice cs (n * inf.size) ((List.range (m * inf.size)).map g).toArray)) := by
          simp [Builtin.append_, run_underlying hu, Go.sizeOf, typeInfo, hinf, Builtin.lenOf, hroom, hf, Addr.add_lit, hst, splice]
        refine ⟨_, _, _, hr, hM.setRow k hk _, .inr ⟨_, _, _, ⟨rfl, rfl, hroom, hmax, ?_, ?_⟩⟩, fun q es c h => h.setRow (hM.row k hk)⟩
        · rw [splice_size _ _ _ (by simpa using hfit), hcsz]
        · intro i hi
          rw [splice_get _ _ _ _ (by simpa using hfit)];have e1 : (n + m) * inf.size = n * inf.size + m * inf.size := Nat.add_mul ..
          by_cases hlt : i < n * inf.size
          · rw [if_neg (by omega), if_pos hlt]; exact hget i hlt
          · rw [if_pos (by simp only [List.size_toArray, List.length_map, List.length_range]; omega), if_neg hlt]
            rw [List.getElem?_toArray, List.getElem?_map, List.getElem?_range (by omega)]; rfl
      · have holds : ∀ j u, ((List.range (n * inf.size)).map f)[j]? = some u → w.cell? ((⟨b, 0, none⟩ : Addr).add j) = some u := by
          intro j u hj;have hlt : j < n * inf.size := by have := (List.getElem?_eq_some_iff.1 hj).1; simpa using this
          rw [Addr.add_lit, Nat.zero_add, hblk.cell, hget j hlt]
          simp [hlt] at hj; rw [hj]
        have hr := run_append_grow (P := P) w T ty el inf z hu hinf hz0 ⟨b, 0, none⟩ n cap ((List.range (n * inf.size)).map f) (by simp) holds ⟨bx, ox, none⟩ m cx _ hnl hnews (by omega) (by omega) (growslice_fits (by omega) hb);refine ⟨_, _, _, hr, hM.fill (heap_drew_alloc _ _) k (Blk.new w.drew _ _) (Nat.le_refl _), .inr ⟨_, _, _, ⟨rfl, rfl, grownCap_ge w _ _ _, grownCap_le_maxLen w _ _ _ h63, ?_, ?_⟩⟩, fun q es c h => h.ext (heap_drew_alloc _ _)⟩
        · have := grownCap_ge w (n + m) cap el
          simp only [Array.size_append, List.size_toArray, hnl, size_zeroCells, hz, List.length_map, List.length_range, ← Nat.add_mul]
          congr 1; omega
        · intro i hi
          have e1 : (n + m) * inf.size = n * inf.size + m * inf.size := Nat.add_mul ..;rw [Array.getElem?_append, if_pos (by simp only [Array.size_append, List.size_toArray, List.length_map, List.length_range]; omega), Array.getElem?_append]
          by_cases hlt : i < n * inf.size
          · rw [if_pos (by simpa using hlt), if_pos hlt]; simp [hlt]
          · rw [if_neg (by simpa using hlt), if_neg hlt]
            simp only [List.size_toArray, List.length_map, List.length_range];rw [List.getElem?_toArray, List.getElem?_map, List.getElem?_range (by omega)]; rfl
section
variable {ops : Array Oper} {Q : Exit → Act → World → Prop} {rest : List Oper} {n : Nat} {F : List (Nat × Value)} {a : Act} {X : List Nat} {w w0 : World} {L : Own} {D : Froz}
variable {d : Option Tmp} {t : TypeId} {pos : String} {af : Array Edge} {gd : Option (Nat × Bool)} {T : TypeId} {x y : Operand}
theorem d_appendM {e : TypeId} {z : Value} {size bytes N k m bx ox cx : Nat} {v : Value} {ent : Option (Nat × Array Value)} {f g : Nat → Value} (hT : slI P T = some (e, some z, size, bytes)) (hz : z.cells.size = size) (hs0 : 0 < size)
    (hM : MemX X w0 w L D) (hk : L[k]? = some ent) (hF : Fr n a F) (hx : look F x = some v) (hy : look F y = some (.slice (some ⟨bx, ox, none⟩) m cx)) (hv : Sl size v ent N f) (hg : ∀ i, i < m * size → w.cell? ⟨bx, ox + i, none⟩ = some (g i)) (h1 : ∀ i, i < m * size → (g i).oneCell' = true)
    (hm : 0 < m) (h63 : N + m ≤ maxLen) (hb : (N + m) * bytes ≤ 140737488355328) :
    Does P ⟨d, .call { callee := .builtin .append, args := #[x, y], argTypes := #[T, T] }, t, pos, af, gd⟩ a w (fun u w' => ∃ e', MemX X w0 w' (L.set k e') D ∧ Sl size u e' (N + m) (fun i => if i < N * size then f i else g (i - N * size)) ∧ ∀ q es c, IsMap w q es c → IsMap w' q es c) :=
  ⟨fun K Q hK => by
    obtain ⟨u, w', e', hr, h2, h3, h4⟩ := run_appendM (P := P) (T := T) hT hz hs0 hM hk hv hg h1 hm h63 hb t
    unfold Oper.wp execOp
    simp only [resolve, invoke, builtin, Sem.run_bind, Sem.run_pure, Result.andThen_ok, List.map_toArray, List.map_cons, List.map_nil, hF.eval hx, hF.eval hy]
    rw [hr]
    exact hK u w' ⟨e', h2, h3, h4⟩⟩
theorem d_storeDM {b o : Nat} {cs : Array Value} {v : Value} (hM : MemX X w0 w L D) (hk0 : (b, cs) ∈ D) (ho' : w0.heap.size ≤ b ∨ b ∈ X) (hT : oneP P T = true) (hF : Fr n a F) (hx : look F x = some (ptr b o)) (hy : look F y = some v)
    (h1 : v.oneCell' = true) (ho : o < cs.size) :
    Does P ⟨d, .store T x y, t, pos, af, gd⟩ a w (fun _ w' => MemX X w0 w' L (updD D b (cs.setIfInBounds o v)) ∧ ∀ q es c, IsMap w q es c → IsMap w' q es c) := by
  have hb := (hM.froz b cs hk0).1;have hs := (run_isAgg_one hT w).2;obtain ⟨tt, hg⟩ := hb;have hM' := hM.setD hk0 ho' (cs.setIfInBounds o v);have hst := run_storeCells_at P b o tt [v] 0 cs w hg (by simp; omega) (by simpa using h1);have e : (List.take (o + 0) cs.toList ++ [v] ++ List.drop (o + 0 + [v].length) cs.toList).toArray = cs.setIfInBounds o v := by
    apply Array.toList_inj.1
    simp [List.set_eq_take_append_cons_drop, ho]
  rw [e] at hst;have hcs : v.cells = #[v] := by cases v <;> first | rfl | (simp [Value.oneCell'] at h1)
  refine ⟨fun K Q hk => ?_⟩;have hrun : (execOp a.eval ⟨d, .store T x y, t, pos, af, gd⟩).run P w = .ok .skip (w.setRow b (cs.setIfInBounds o v)) := by
    simp [execOp, Instr.storeAt, Instr.sureAddr, hF.eval hx, hF.eval hy, storeVar, hs, hcs, hst]
  unfold Oper.wp
  rw [hrun];exact hk _ _ ⟨hM', fun q es c h => h.setRow (hM.froz b cs hk0).1⟩
end
/-! ### Memory behind a side that was linked -/
theorem Blk.keepX {w w' : World} {Y : List Nat} {b : Nat} {cs : Array Value} (h : Blk w b cs) (hx : ExtX Y w w') (hn : b ∉ Y) : Blk w' b cs := by
  have hlt := h.lt;obtain ⟨t, ht⟩ := h;exact ⟨t, by rw [hx.block _ hlt hn]; exact ht⟩
theorem link_memF {w0 w w' : World} {L : Own} {D : Froz} {bS bM b1 b2 ec : Nat} {es : Array MapEntry} {cs cs' c1 c2 : Array Value} (hM : Mem w0 w L ((bS, cs) :: D)) (hmap : IsMap w bM es ec) (hgM : w0.heap.size ≤ bM) (hgS : w0.heap.size ≤ bS) (hbS : ∀ y ds, (y, ds) ∈ D → y ≠ bS)
    (hx : ExtX [bS, bM] w w') (hb : Blk w' bS cs') (h1 : Blk w' b1 c1) (h2 : Blk w' b2 c2) (hg1 : w.heap.size ≤ b1) (hg2 : w.heap.size ≤ b2) : Mem w0 w' L ((bS, cs') :: (b1, c1) :: (b2, c2) :: D) := by
  refine hM.renew hx (fun y hy => ?_) (fun k b ds hk hy => ?_) (fun b ds hb2 => ?_)
  · simp only [List.mem_cons, List.not_mem_nil, or_false] at hy
    rcases hy with rfl | rfl
    · exact .inl hgS
    · exact .inl hgM
  · simp only [List.mem_cons, List.not_mem_nil, or_false] at hy
    rcases hy with rfl | rfl
    · exact (hM.froz _ _ (List.mem_cons_self ..)).2 k _ _ hk rfl
    · exact (hM.blk k _ _ hk).2.no_map hmap
  · rcases List.mem_cons.1 hb2 with e | hb3
    · simp only [Prod.mk.injEq] at e; obtain ⟨rfl, rfl⟩ := e; exact ⟨hb, .inl ⟨_, List.mem_cons_self ..⟩⟩
    rcases List.mem_cons.1 hb3 with e | hb4
    · simp only [Prod.mk.injEq] at e; obtain ⟨rfl, rfl⟩ := e; exact ⟨h1, .inr hg1⟩
    rcases List.mem_cons.1 hb4 with e | hb5
    · simp only [Prod.mk.injEq] at e; obtain ⟨rfl, rfl⟩ := e; exact ⟨h2, .inr hg2⟩
    · have h0 := hM.fzm (List.mem_cons_of_mem _ hb5)
      exact ⟨h0.keepX hx (fun hy => by
        simp only [List.mem_cons, List.not_mem_nil, or_false] at hy
        rcases hy with rfl | rfl
        · exact hbS _ _ hb5 rfl
        · exact h0.no_map hmap), .inl ⟨_, List.mem_cons_of_mem _ hb5⟩⟩
theorem link_memS {w0 w w' : World} {L : Own} {D : Froz} {bS by_ : Nat} {cs cs' cy cy' : Array Value} (hM : Mem w0 w L ((bS, cs) :: D)) (hy : (by_, cy) ∈ D) (hgS : w0.heap.size ≤ bS) (hgY : w0.heap.size ≤ by_) (hbS : ∀ y ds, (y, ds) ∈ D → y ≠ bS)
    (hx : ExtX [bS, by_] w w') (hb : Blk w' bS cs') (hb2 : Blk w' by_ cy') : Mem w0 w' L ((bS, cs') :: updD D by_ cy') := by
  refine hM.renew hx (fun y hy => ?_) (fun k b ds hk hy2 => ?_) (fun b ds hb3 => ?_)
  · simp only [List.mem_cons, List.not_mem_nil, or_false] at hy
    rcases hy with rfl | rfl
    · exact .inl hgS
    · exact .inl hgY
  · simp only [List.mem_cons, List.not_mem_nil, or_false] at hy2
    rcases hy2 with rfl | rfl
    · exact (hM.froz _ _ (List.mem_cons_self ..)).2 k _ _ hk rfl
    · exact (hM.froz _ _ (List.mem_cons_of_mem _ hy)).2 k _ _ hk rfl
  · rcases List.mem_cons.1 hb3 with e | hb3
    · simp only [Prod.mk.injEq] at e; obtain ⟨rfl, rfl⟩ := e; exact ⟨hb, .inl ⟨_, List.mem_cons_self ..⟩⟩
    rcases mem_updD.1 hb3 with ⟨rfl, rfl, es, he⟩ | ⟨hne, he⟩
    · exact ⟨hb2, .inl ⟨_, List.mem_cons_of_mem _ he⟩⟩
    · have h0 := hM.fzm (List.mem_cons_of_mem _ he)
      exact ⟨h0.keepX hx (fun hy2 => by
        simp only [List.mem_cons, List.not_mem_nil, or_false] at hy2
        rcases hy2 with rfl | rfl
        · exact hbS _ _ he rfl
        · exact hne rfl), .inl ⟨_, List.mem_cons_of_mem _ he⟩⟩
section
variable {K : Nat → Int} {tw τ σ φ ψ : Nat → Nat} {q u bx b1 b2 bT : Nat} {k : Int}
theorem SC_first (hu : u ≤ q) (hf : q < tw q) (hτ : τ (q / 3) = bT) (hk : K q = k) : SC K tw τ (up σ q bx) (up φ q b1) (up ψ q b2) (q + 1) u q = sdC k (ptr bT 0) (.pointer none) (.pointer none) (ptr b1 0) (ptr b2 0) 0 := by
  unfold SC onP frT toT
  rw [if_neg (by omega), if_neg (by omega), if_neg (by omega), if_neg (by omega), up_eq, up_eq, hτ, hk]
theorem SC_second (hu : u ≤ q) (hf : tw q < q) (hτ : τ (q / 3) = bT) (hk : K q = k) : SC K tw τ (up σ q bx) φ ψ (q + 1) u q = sdC k (ptr bT 0) (.pointer none) (ptr (σ (tw q)) 0) (if k = K (tw q) then ptr (φ (tw q)) 0 else ptr (ψ (tw q)) 0) (if k = K (tw q) then ptr (ψ (tw q)) 0 else ptr (φ (tw q)) 0) 0 := by
  unfold SC onP frT toT
  rw [if_neg (by omega), if_pos (by omega), if_pos hf, if_pos hf, up_ne (by omega), hτ, hk]
  by_cases e : k = K (tw q)
  · simp only [if_pos e]
  · simp only [if_neg e]
theorem SC_old {y : Nat} (hf : y < tw y) (hq : ¬ tw y < q) : SC K tw τ σ φ ψ q u y = sdC (K y) (ptr (τ (y / 3)) 0) (onP (y < u) (σ (nxt y))) (.pointer none) (ptr (φ y) 0) (ptr (ψ y) 0) 0 := by
  unfold SC frT toT
  rw [if_neg (by omega), if_neg (by omega)]
  unfold onP
  rw [if_neg hq]
theorem SC_twin {y : Nat} (hf : y < tw y) (hq : tw y = q) (hn : y < u → nxt y ≠ q) : SC K tw τ (up σ q bx) φ ψ (q + 1) u y = sdC (K y) (ptr (τ (y / 3)) 0) (onP (y < u) (σ (nxt y))) (ptr bx 0) (ptr (φ y) 0) (ptr (ψ y) 0) 0 := by
  unfold SC frT toT
  rw [if_neg (by omega), if_neg (by omega), hq, up_eq];have e1 : onP (y < u) (up σ q bx (nxt y)) = onP (y < u) (σ (nxt y)) := by
    unfold onP
    by_cases e : y < u
    · rw [if_pos e, if_pos e, up_ne (hn e)]
    · rw [if_neg e, if_neg e]
  have e2 : onP (q < q + 1) bx = ptr bx 0 := by unfold onP; rw [if_pos (by omega)]
  rw [e1, e2]
theorem SC_next : (SC K tw τ σ φ ψ q u u).setIfInBounds (0 + 2) (ptr (σ (nxt u)) 0) = SC K tw τ σ φ ψ q (u + 1) u := by
  have e2 : onP (u < u + 1) (σ (nxt u)) = ptr (σ (nxt u)) 0 := by unfold onP; rw [if_pos (by omega)]
  unfold SC
  rw [e2]
  rfl
end
end Go.Sw

namespace Go.Sw
open Go Go.RowKit Go.Ech
section
variable {P : Program} {n : Nat} {F : List (Nat × Value)} {a : Act} {w : World} {d : Option Tmp} {t T T' e : TypeId} {pos : String} {af : Array Edge} {gd : Option (Nat × Bool)} {x y : Operand} {b1 b2 : Nat} {c1 c2 : Array Value}
/-! ### Pointers compared -/
theorem run_equal_ptr {z : Nat} (hT : P.underlying T = some (.pointer e)) (hz : sizeP P e = some (z + 1)) (h1 : Blk w b1 c1) (h2 : Blk w b2 c2) : (Op.equal T (ptr b1 0) (ptr b2 0)).run P w = .ok (decide (b1 = b2)) w := by
  show (Op.equalIn 10000 T _ _).run P w = _
  obtain ⟨t1, h1⟩ := h1;obtain ⟨t2, h2⟩ := h2
  unfold sizeP at hz
  cases hi : P.info? e with
  | none => simp [hi] at hz
  | some j =>
    simp [hi] at hz
    rw [Op.equalIn]
    by_cases hb : b1 = b2
    · subst hb
      simp [ptr, run_underlying hT, Go.sizeOf, typeInfo, hi, hz, run_sameAddr_same]
    · have hne : (⟨b1, 0, none⟩ : Addr) ≠ ⟨b2, 0, none⟩ := fun q => hb (congrArg Addr.block q)
      have hs := run_sameAddr_other (P := P) w hne (ha := h1) (hb := h2)
      simp [ptr, run_underlying hT, Go.sizeOf, typeInfo, hi, hz, hs, hb]
end
theorem Gr.tinj {D : Froz} {lo N : Nat} {K : Nat → Int} {tw : Nat → Nat} {q u t : Nat} {τ σ φ ψ : Nat → Nat} (h : Gr D lo N K tw q u t τ σ φ ψ) (hsame : ∀ b cs ds, (b, cs) ∈ D → (b, ds) ∈ D → cs = ds) {i j : Nat} (hi : i < t) (hj : j < t) (e : τ i = τ j) : i = j := by
  have h1 := h.tri i hi;have h2 := h.tri j hj;rw [e] at h1;have e2 := hsame _ _ _ h1 h2;have h3 : (TCv σ i)[0]? = (TCv σ j)[0]? := by rw [e2]
  have h4 : (TCv σ i)[0]? = some (.int .i64 (i : Int)) := trC_0 rfl;have h5 : (TCv σ j)[0]? = some (.int .i64 (j : Int)) := trC_0 rfl;rw [h4, h5] at h3;have h6 := Option.some.inj h3
  injection h6 with _ h7
  exact Int.ofNat.inj h7
end Go.Sw

namespace Go.Sw
open Go Go.RowKit Go.Ech
/-! ### Numbers that are joined, and how many different ones there are -/
def isF (l : Nat → Nat) (i : Nat) : Bool := decide (∀ k, k < i → l k ≠ l i)
def dif (l : Nat → Nat) (N : Nat) : Nat := cnt (isF l) N
def joinL (l : Nat → Nat) (a b c : Nat) : Nat := if l c = l b then l a else l c
/-! ### Numbers that lead onward to one last number -/
structure UF (N : Nat) (par rt dp : Nat → Nat) : Prop where
  pl : ∀ c, c < N → par c < N
  rl : ∀ c, c < N → rt c < N
  rr : ∀ c, c < N → par (rt c) = rt c
  rp : ∀ c, c < N → rt (par c) = rt c
  r0 : ∀ c, c < N → par c = c → rt c = c
  dl : ∀ c, c < N → par c ≠ c → dp (par c) < dp c
theorem UF.start {N : Nat} : UF N (fun c => c) (fun c => c) (fun _ => 0) := ⟨fun _ h => h, fun _ h => h, fun _ _ => rfl, fun _ _ => rfl, fun _ _ _ => rfl, fun _ _ h => absurd rfl h⟩
def rtU (rt : Nat → Nat) (a b c : Nat) : Nat := if rt c = a then b else rt c
def dpU (rt dp : Nat → Nat) (a b c : Nat) : Nat := if rt c = a then dp c + dp b + 1 else dp c
/-! ### The ends of edges -/
def endK (K : Nat → Int) (x : Nat) : Nat := if 0 < K x then 2 * (K x).natAbs - 1 else 2 * (K x).natAbs - 2
def begK (K : Nat → Int) (x : Nat) : Nat := if 0 < K x then 2 * (K x).natAbs - 2 else 2 * (K x).natAbs - 1
def ldS (K : Nat → Int) : Nat → Nat → Nat
  | 0, c => c
  | x + 1, c => joinL (ldS K x) (endK K x) (begK K (nxt x)) c
def tipV (par tb : Nat → Nat) (c : Nat) : Value := if par c = c then .pointer none else ptr (tb (par c)) 0
structure Tp (D : Froz) (N : Nat) (tb par : Nat → Nat) : Prop where
  mem : ∀ c, c < N → (tb c, #[tipV par tb c]) ∈ D
  inj : ∀ c d, c < N → d < N → tb c = tb d → c = d
structure Gs (D : Froz) (lo N : Nat) (K : Nat → Int) (tw : Nat → Nat) (q u t : Nat) (τ σ φ ψ : Nat → Nat) : Prop where
  sid : ∀ x, x < q → (σ x, SC K tw τ σ φ ψ q u x) ∈ D
  tri : ∀ i, i < t → (τ i, TCv σ i) ∈ D
end Go.Sw

namespace Go.Sw
open Go Go.RowKit Go.Ech
/-! ### An end of an edge compared with nil -/
section
variable {P : Program} {n : Nat} {F : List (Nat × Value)} {a : Act} {w : World} {d : Option Tmp} {t T T' : TypeId} {pos : String} {af : Array Edge} {gd : Option (Nat × Bool)} {x y : Operand} {par tb : Nat → Nat} {c : Nat} {e : TypeId}
end
end Go.Sw
