/- Plain lemmas of a small calculus for walks over frames and own memory; no statement of the seat is proved here. -/
import Derived.Test.YtfakhcmamdefiaaSw81
import Derived.LaidEql
import Derived.Test.YtfakhcmamdefiaaSw65
set_option linter.unusedVariables false
set_option linter.unusedSimpArgs false
namespace Go.Sw
open Go Go.RowKit Go.Ech
variable {P : Program}
/-! ### 'append', and what it leaves as it was: maps -/
theorem run_appendM {X : List Nat} {w0 w : World} {L : Own} {D : Froz} {T e : TypeId} {z : Value} {size bytes n k m bx ox cx : Nat} {v : Value} {ent : Option (Nat × Array Value)} {f g : Nat → Value} (hT : slI P T = some (e, some z, size, bytes)) (hz : z.cells.size = size) (hs0 : 0 < size)
    (hM : MemX X w0 w L D) (hk : L[k]? = some ent) (hv : Sl size v ent n f) (hg : ∀ i, i < m * size → w.cell? ⟨bx, ox + i, none⟩ = some (g i)) (h1 : ∀ i, i < m * size → (g i).oneCell' = true)
    (hm : 0 < m) (h63 : n + m ≤ maxLen) (hb : (n + m) * bytes ≤ 140737488355328) (ty : TypeId) :
    ∃ u w' e', (Builtin.append_ #[T, T] ty #[v, .slice (some ⟨bx, ox, none⟩) m cx]).run P w = .ok u w' ∧ MemX X w0 w' (L.set k e') D ∧ Sl size u e' (n + m) (fun i => if i < n * size then f i else g (i - n * size)) ∧ ∀ q es c, IsMap w q es c → IsMap w' q es c := by
  unfold slI at hT
  cases hu : P.underlying T with
  | none => simp [hu] at hT
  | some dd =>
    cases dd <;> simp [hu] at hT
    rename_i el
    obtain ⟨inf, hinf, rfl, hz0, hsz, hby⟩ := hT;subst hsz; subst hby
    have hm0 : n + m ≤ 9223372036854775807 := by simp only [maxLen] at h63; omega
    have hnl : (((List.range (m * inf.size)).map g)).length = m * inf.size := by simp
    have hnews : ∀ j u, ((List.range (m * inf.size)).map g)[j]? = some u → w.cell? ((⟨bx, ox, none⟩ : Addr).add j) = some u := by
      intro j u hj;have hlt : j < m * inf.size := by have := (List.getElem?_eq_some_iff.1 hj).1; simpa using this
      rw [Addr.add_lit, hg j hlt]
      simp [hlt] at hj; rw [hj]
    have hone : ∀ u ∈ (List.range (m * inf.size)).map g, u.oneCell' = true := by
      intro u hu';obtain ⟨i, hi, rfl⟩ := List.mem_map.1 hu';exact h1 i (by simpa using hi)
    rcases hv with ⟨rfl, rfl, rfl⟩ | ⟨b, cap, cs, hat⟩
    · have hr := run_append_nil (P := P) w T ty el inf z hu hinf hz0 ⟨bx, ox, none⟩ m cx _ hnl hnews hm (by omega) (by simp only [Nat.zero_add] at hb; omega)
      refine ⟨_, _, _, hr, hM.fill (heap_drew_alloc _ _) k (Blk.new w.drew _ _) (Nat.le_refl _), .inr ⟨_, _, _, ⟨by rw [Nat.zero_add]; rfl, rfl, ?_, grownCap_le_maxLen w m 0 el (by omega), ?_, ?_⟩⟩, fun q es c h => h.ext (heap_drew_alloc _ _)⟩
      · have := grownCap_ge w m 0 el; omega
      · have := grownCap_ge w m 0 el
        simp only [Array.size_append, List.size_toArray, hnl, size_zeroCells, hz, ← Nat.add_mul]
        congr 1; omega
      · intro i hi
        rw [Nat.zero_add] at hi;rw [if_neg (by simp), Array.getElem?_append, if_pos (by simpa using hi)]
        simp [hi]
    · obtain ⟨rfl, rfl, hle, hmax, hcsz, hget⟩ := hat
      have hblk := hM.row k hk
      by_cases hroom : n + m ≤ cap
      · obtain ⟨tt, hgg⟩ := hblk
        have hf := run_firstCells_some (P := P) w inf.size m ⟨bx, ox, none⟩ m cx _ hnl hnews;have hfit : n * inf.size + ((List.range (m * inf.size)).map g).length ≤ cs.size := by rw [hnl, hcsz, ← Nat.add_mul]; exact Nat.mul_le_mul_right _ hroom
        have hst := run_storeCells_at P b (n * inf.size) tt ((List.range (m * inf.size)).map g) 0 cs w hgg (by simpa using hfit) hone;simp only [Nat.add_zero] at hst;have hr : (Builtin.append_ #[T, T] ty #[.slice (some ⟨b, 0, none⟩) n cap, .slice (some ⟨bx, ox, none⟩) m cx]).run P w = .ok (.slice (some ⟨b, 0, none⟩) (n + m) cap) (w.setRow b (splice cs (n * inf.size) ((List.range (m * inf.size)).map g).toArray)) := by
          simp [Builtin.append_, run_underlying hu, Go.sizeOf, typeInfo, hinf, Builtin.lenOf, hroom, hf, Addr.add_lit, hst, splice]
        refine ⟨_, _, _, hr, hM.setRow k hk _, .inr ⟨_, _, _, ⟨rfl, rfl, hroom, hmax, ?_, ?_⟩⟩, fun q es c h => h.setRow (hM.row k hk)⟩
        · rw [splice_size _ _ _ (by simpa using hfit), hcsz]
        · intro i hi
          rw [splice_get _ _ _ _ (by simpa using hfit)];have e1 : (n + m) * inf.size = n * inf.size + m * inf.size := Nat.add_mul ..
          by_cases hlt : i < n * inf.size
          · rw [if_neg (by omega), if_pos hlt]; exact hget i hlt
          · rw [if_pos (by simp only [List.size_toArray, List.length_map, List.length_range]; omega), if_neg hlt]
            rw [List.getElem?_toArray, List.getElem?_map, List.getElem?_range (by omega)]; rfl
      · have holds : ∀ j u, ((List.range (n * inf.size)).map f)[j]? = some u → w.cell? ((⟨b, 0, none⟩ : Addr).add j) = some u := by
          intro j u hj;have hlt : j < n * inf.size := by have := (List.getElem?_eq_some_iff.1 hj).1; simpa using this
          rw [Addr.add_lit, Nat.zero_add, hblk.cell, hget j hlt]
          simp [hlt] at hj; rw [hj]
        have hr := run_append_grow (P := P) w T ty el inf z hu hinf hz0 ⟨b, 0, none⟩ n cap ((List.range (n * inf.size)).map f) (by simp) holds ⟨bx, ox, none⟩ m cx _ hnl hnews (by omega) (by omega) (growslice_fits (by omega) hb);refine ⟨_, _, _, hr, hM.fill (heap_drew_alloc _ _) k (Blk.new w.drew _ _) (Nat.le_refl _), .inr ⟨_, _, _, ⟨rfl, rfl, grownCap_ge w _ _ _, grownCap_le_maxLen w _ _ _ h63, ?_, ?_⟩⟩, fun q es c h => h.ext (heap_drew_alloc _ _)⟩
        · have := grownCap_ge w (n + m) cap el
          simp only [Array.size_append, List.size_toArray, hnl, size_zeroCells, hz, List.length_map, List.length_range, ← Nat.add_mul]
          congr 1; omega
        · intro i hi
          have e1 : (n + m) * inf.size = n * inf.size + m * inf.size := Nat.add_mul ..;rw [Array.getElem?_append, if_pos (by simp only [Array.size_append, List.size_toArray, List.length_map, List.length_range]; omega), Array.getElem?_append]
          by_cases hlt : i < n * inf.size
          · rw [if_pos (by simpa using hlt), if_pos hlt]; simp [hlt]
          · rw [if_neg (by simpa using hlt), if_neg hlt]
            simp only [List.size_toArray, List.length_map, List.length_range];rw [List.getElem?_toArray, List.getElem?_map, List.getElem?_range (by omega)]; rfl
section
variable {ops : Array Oper} {Q : Exit → Act → World → Prop} {rest : List Oper} {n : Nat} {F : List (Nat × Value)} {a : Act} {X : List Nat} {w w0 : World} {L : Own} {D : Froz}
variable {d : Option Tmp} {t : TypeId} {pos : String} {af : Array Edge} {gd : Option (Nat × Bool)} {T : TypeId} {x y : Operand}
theorem d_appendM {e : TypeId} {z : Value} {size bytes N k m bx ox cx : Nat} {v : Value} {ent : Option (Nat × Array Value)} {f g : Nat → Value} (hT : slI P T = some (e, some z, size, bytes)) (hz : z.cells.size = size) (hs0 : 0 < size)
    (hM : MemX X w0 w L D) (hk : L[k]? = some ent) (hF : Fr n a F) (hx : look F x = some v) (hy : look F y = some (.slice (some ⟨bx, ox, none⟩) m cx)) (hv : Sl size v ent N f) (hg : ∀ i, i < m * size → w.cell? ⟨bx, ox + i, none⟩ = some (g i)) (h1 : ∀ i, i < m * size → (g i).oneCell' = true)
    (hm : 0 < m) (h63 : N + m ≤ maxLen) (hb : (N + m) * bytes ≤ 140737488355328) :
    Does P ⟨d, .call { callee := .builtin .append, args := #[x, y], argTypes := #[T, T] }, t, pos, af, gd⟩ a w (fun u w' => ∃ e', MemX X w0 w' (L.set k e') D ∧ Sl size u e' (N + m) (fun i => if i < N * size then f i else g (i - N * size)) ∧ ∀ q es c, IsMap w q es c → IsMap w' q es c) :=
  ⟨fun K Q hK => by
    obtain ⟨u, w', e', hr, h2, h3, h4⟩ := run_appendM (P := P) (T := T) hT hz hs0 hM hk hv hg h1 hm h63 hb t
    unfold Oper.wp execOp
    simp only [resolve, invoke, builtin, Sem.run_bind, Sem.run_pure, Result.andThen_ok, List.map_toArray, List.map_cons, List.map_nil, hF.eval hx, hF.eval hy]
    rw [hr]
    exact hK u w' ⟨e', h2, h3, h4⟩⟩
theorem d_storeDM {b o : Nat} {cs : Array Value} {v : Value} (hM : MemX X w0 w L D) (hk0 : (b, cs) ∈ D) (ho' : w0.heap.size ≤ b ∨ b ∈ X) (hT : oneP P T = true) (hF : Fr n a F) (hx : look F x = some (ptr b o)) (hy : look F y = some v)
    (h1 : v.oneCell' = true) (ho : o < cs.size) :
    Does P ⟨d, .store T x y, t, pos, af, gd⟩ a w (fun _ w' => MemX X w0 w' L (updD D b (cs.setIfInBounds o v)) ∧ ∀ q es c, IsMap w q es c → IsMap w' q es c) := by
  have hb := (hM.froz b cs hk0).1;have hs := (run_isAgg_one hT w).2;obtain ⟨tt, hg⟩ := hb;have hM' := hM.setD hk0 ho' (cs.setIfInBounds o v);have hst := run_storeCells_at P b o tt [v] 0 cs w hg (by simp; omega) (by simpa using h1);have e : (List.take (o + 0) cs.toList ++ [v] ++ List.drop (o + 0 + [v].length) cs.toList).toArray = cs.setIfInBounds o v := by
    apply Array.toList_inj.1
    simp [List.set_eq_take_append_cons_drop, ho]
  rw [e] at hst;have hcs : v.cells = #[v] := by cases v <;> first | rfl | (simp [Value.oneCell'] at h1)
  refine ⟨fun K Q hk => ?_⟩;have hrun : (execOp a.eval ⟨d, .store T x y, t, pos, af, gd⟩).run P w = .ok .skip (w.setRow b (cs.setIfInBounds o v)) := by
    simp [execOp, Instr.storeAt, Instr.sureAddr, hF.eval hx, hF.eval hy, storeVar, hs, hcs, hst]
  unfold Oper.wp
  rw [hrun];exact hk _ _ ⟨hM', fun q es c h => h.setRow (hM.froz b cs hk0).1⟩
end
/-! ### Memory behind a side that was linked -/
theorem Blk.keepX {w w' : World} {Y : List Nat} {b : Nat} {cs : Array Value} (h : Blk w b cs) (hx : ExtX Y w w') (hn : b ∉ Y) : Blk w' b cs := by
  have hlt := h.lt;obtain ⟨t, ht⟩ := h;exact ⟨t, by rw [hx.block _ hlt hn]; exact ht⟩
theorem link_memF {w0 w w' : World} {L : Own} {D : Froz} {bS bM b1 b2 ec : Nat} {es : Array MapEntry} {cs cs' c1 c2 : Array Value} (hM : Mem w0 w L ((bS, cs) :: D)) (hmap : IsMap w bM es ec) (hgM : w0.heap.size ≤ bM) (hgS : w0.heap.size ≤ bS) (hbS : ∀ y ds, (y, ds) ∈ D → y ≠ bS)
    (hx : ExtX [bS, bM] w w') (hb : Blk w' bS cs') (h1 : Blk w' b1 c1) (h2 : Blk w' b2 c2) (hg1 : w.heap.size ≤ b1) (hg2 : w.heap.size ≤ b2) : Mem w0 w' L ((bS, cs') :: (b1, c1) :: (b2, c2) :: D) := by
  refine hM.renew hx (fun y hy => ?_) (fun k b ds hk hy => ?_) (fun b ds hb2 => ?_)
  · simp only [List.mem_cons, List.not_mem_nil, or_false] at hy
    rcases hy with rfl | rfl
    · exact .inl hgS
    · exact .inl hgM
  · simp only [List.mem_cons, List.not_mem_nil, or_false] at hy
    rcases hy with rfl | rfl
    · exact (hM.froz _ _ (List.mem_cons_self ..)).2 k _ _ hk rfl
    · exact (hM.blk k _ _ hk).2.no_map hmap
  · rcases List.mem_cons.1 hb2 with e | hb3
    · simp only [Prod.mk.injEq] at e; obtain ⟨rfl, rfl⟩ := e; exact ⟨hb, .inl ⟨_, List.mem_cons_self ..⟩⟩
    rcases List.mem_cons.1 hb3 with e | hb4
    · simp only [Prod.mk.injEq] at e; obtain ⟨rfl, rfl⟩ := e; exact ⟨h1, .inr hg1⟩
    rcases List.mem_cons.1 hb4 with e | hb5
    · simp only [Prod.mk.injEq] at e; obtain ⟨rfl, rfl⟩ := e; exact ⟨h2, .inr hg2⟩
    · have h0 := hM.fzm (List.mem_cons_of_mem _ hb5)
      exact ⟨h0.keepX hx (fun hy => by
        simp only [List.mem_cons, List.not_mem_nil, or_false] at hy
        rcases hy with rfl | rfl
        · exact hbS _ _ hb5 rfl
        · exact h0.no_map hmap), .inl ⟨_, List.mem_cons_of_mem _ hb5⟩⟩
theorem link_memS {w0 w w' : World} {L : Own} {D : Froz} {bS by_ : Nat} {cs cs' cy cy' : Array Value} (hM : Mem w0 w L ((bS, cs) :: D)) (hy : (by_, cy) ∈ D) (hgS : w0.heap.size ≤ bS) (hgY : w0.heap.size ≤ by_) (hbS : ∀ y ds, (y, ds) ∈ D → y ≠ bS)
    (hx : ExtX [bS, by_] w w') (hb : Blk w' bS cs') (hb2 : Blk w' by_ cy') : Mem w0 w' L ((bS, cs') :: updD D by_ cy') := by
  refine hM.renew hx (fun y hy => ?_) (fun k b ds hk hy2 => ?_) (fun b ds hb3 => ?_)
  · simp only [List.mem_cons, List.not_mem_nil, or_false] at hy
    rcases hy with rfl | rfl
    · exact .inl hgS
    · exact .inl hgY
  · simp only [List.mem_cons, List.not_mem_nil, or_false] at hy2
    rcases hy2 with rfl | rfl
    · exact (hM.froz _ _ (List.mem_cons_self ..)).2 k _ _ hk rfl
    · exact (hM.froz _ _ (List.mem_cons_of_mem _ hy)).2 k _ _ hk rfl
  · rcases List.mem_cons.1 hb3 with e | hb3
    · simp only [Prod.mk.injEq] at e; obtain ⟨rfl, rfl⟩ := e; exact ⟨hb, .inl ⟨_, List.mem_cons_self ..⟩⟩
    rcases mem_updD.1 hb3 with ⟨rfl, rfl, es, he⟩ | ⟨hne, he⟩
    · exact ⟨hb2, .inl ⟨_, List.mem_cons_of_mem _ he⟩⟩
    · have h0 := hM.fzm (List.mem_cons_of_mem _ he)
      exact ⟨h0.keepX hx (fun hy2 => by
        simp only [List.mem_cons, List.not_mem_nil, or_false] at hy2
        rcases hy2 with rfl | rfl
        · exact hbS _ _ he rfl
        · exact hne rfl), .inl ⟨_, List.mem_cons_of_mem _ he⟩⟩
section
variable {K : Nat → Int} {tw τ σ φ ψ : Nat → Nat} {q u bx b1 b2 bT : Nat} {k : Int}
theorem SC_first (hu : u ≤ q) (hf : q < tw q) (hτ : τ (q / 3) = bT) (hk : K q = k) : SC K tw τ (up σ q bx) (up φ q b1) (up ψ q b2) (q + 1) u q = sdC k (ptr bT 0) (.pointer none) (.pointer none) (ptr b1 0) (ptr b2 0) 0 := by
  unfold SC onP frT toT
  rw [if_neg (by omega), if_neg (by omega), if_neg (by omega), if_neg (by omega), up_eq, up_eq, hτ, hk]
theorem SC_second (hu : u ≤ q) (hf : tw q < q) (hτ : τ (q / 3) = bT) (hk : K q = k) : SC K tw τ (up σ q bx) φ ψ (q + 1) u q = sdC k (ptr bT 0) (.pointer none) (ptr (σ (tw q)) 0) (if k = K (tw q) then ptr (φ (tw q)) 0 else ptr (ψ (tw q)) 0) (if k = K (tw q) then ptr (ψ (tw q)) 0 else ptr (φ (tw q)) 0) 0 := by
  unfold SC onP frT toT
  rw [if_neg (by omega), if_pos (by omega), if_pos hf, if_pos hf, up_ne (by omega), hτ, hk]
  by_cases e : k = K (tw q)
  · simp only [if_pos e]
  · simp only [if_neg e]
theorem SC_old {y : Nat} (hf : y < tw y) (hq : ¬ tw y < q) : SC K tw τ σ φ ψ q u y = sdC (K y) (ptr (τ (y / 3)) 0) (onP (y < u) (σ (nxt y))) (.pointer none) (ptr (φ y) 0) (ptr (ψ y) 0) 0 := by
  unfold SC frT toT
  rw [if_neg (by omega), if_neg (by omega)]
  unfold onP
  rw [if_neg hq]
theorem SC_twin {y : Nat} (hf : y < tw y) (hq : tw y = q) (hn : y < u → nxt y ≠ q) : SC K tw τ (up σ q bx) φ ψ (q + 1) u y = sdC (K y) (ptr (τ (y / 3)) 0) (onP (y < u) (σ (nxt y))) (ptr bx 0) (ptr (φ y) 0) (ptr (ψ y) 0) 0 := by
  unfold SC frT toT
  rw [if_neg (by omega), if_neg (by omega), hq, up_eq];have e1 : onP (y < u) (up σ q bx (nxt y)) = onP (y < u) (σ (nxt y)) := by
    unfold onP
    by_cases e : y < u
    · rw [if_pos e, if_pos e, up_ne (hn e)]
    · rw [if_neg e, if_neg e]
  have e2 : onP (q < q + 1) bx = ptr bx 0 := by unfold onP; rw [if_pos (by omega)]
  rw [e1, e2]
theorem SC_next : (SC K tw τ σ φ ψ q u u).setIfInBounds (0 + 2) (ptr (σ (nxt u)) 0) = SC K tw τ σ φ ψ q (u + 1) u := by
  have e2 : onP (u < u + 1) (σ (nxt u)) = ptr (σ (nxt u)) 0 := by unfold onP; rw [if_pos (by omega)]
  unfold SC
  rw [e2]
  rfl
end
end Go.Sw

namespace Go.Sw
open Go Go.RowKit Go.Ech
section
variable {P : Program} {n : Nat} {F : List (Nat × Value)} {a : Act} {w : World} {d : Option Tmp} {t T T' e : TypeId} {pos : String} {af : Array Edge} {gd : Option (Nat × Bool)} {x y : Operand} {b1 b2 : Nat} {c1 c2 : Array Value}
/-! ### Pointers compared -/
theorem run_equal_ptr {z : Nat} (hT : P.underlying T = some (.pointer e)) (hz : sizeP P e = some (z + 1)) (h1 : Blk w b1 c1) (h2 : Blk w b2 c2) : (Op.equal T (ptr b1 0) (ptr b2 0)).run P w = .ok (decide (b1 = b2)) w := by
  show (Op.equalIn 10000 T _ _).run P w = _
  obtain ⟨t1, h1⟩ := h1;obtain ⟨t2, h2⟩ := h2
  unfold sizeP at hz
  cases hi : P.info? e with
  | none => simp [hi] at hz
  | some j =>
    simp [hi] at hz
    rw [Op.equalIn]
    by_cases hb : b1 = b2
    · subst hb
      simp [ptr, run_underlying hT, Go.sizeOf, typeInfo, hi, hz, run_sameAddr_same]
    · have hne : (⟨b1, 0, none⟩ : Addr) ≠ ⟨b2, 0, none⟩ := fun q => hb (congrArg Addr.block q)
      have hs := run_sameAddr_other (P := P) w hne (ha := h1) (hb := h2)
      simp [ptr, run_underlying hT, Go.sizeOf, typeInfo, hi, hz, hs, hb]
theorem g_neqPtr {z : Nat} (hT : P.underlying T = some (.pointer e)) (hz : sizeP P e = some (z + 1)) (h1 : Blk w b1 c1) (h2 : Blk w b2 c2) (hF : Fr n a F) (hx : look F x = some (ptr b1 0)) (hy : look F y = some (ptr b2 0)) : Gives P ⟨d, .binOp .neq T x y T', t, pos, af, gd⟩ a w (.bool (decide (b1 ≠ b2))) :=
  gives_of_run (by
    have hg : (eqGuard .neq T x y (ptr b1 0) (ptr b2 0)).run P w = .ok () w := by unfold eqGuard; simp [ptr]
    have he := run_equal_ptr (T := T) hT hz h1 h2
    simp only [execOp, Sem.run_bind, hF.eval hx, hF.eval hy, hg, Result.andThen]
    simp [binOp, ptr] at he ⊢
    simp [he])
end
end Go.Sw

namespace Go.Sw
open Go Go.RowKit Go.Ech
/-! ### Numbers that are joined, and how many different ones there are -/
def isF (l : Nat → Nat) (i : Nat) : Bool := decide (∀ k, k < i → l k ≠ l i)
def dif (l : Nat → Nat) (N : Nat) : Nat := cnt (isF l) N
def joinL (l : Nat → Nat) (a b c : Nat) : Nat := if l c = l b then l a else l c
theorem isF_iff {l : Nat → Nat} {i : Nat} : isF l i = true ↔ ∀ k, k < i → l k ≠ l i := by unfold isF; exact ⟨of_decide_eq_true, decide_eq_true⟩
theorem dif_le {l : Nat → Nat} {N : Nat} : dif l N ≤ N := cnt_le N
theorem joinL_same {l : Nat → Nat} {a b c : Nat} (h : l a = l b) : joinL l a b c = l c := by
  unfold joinL; split
  · rename_i e; rw [h, e]
  · rfl
theorem dif_congr {l l' : Nat → Nat} {N : Nat} (h : ∀ c, c < N → l c = l' c) : dif l N = dif l' N := cnt_congr fun i hi => by
  unfold isF
  apply decide_eq_decide.2
  constructor
  · intro q k hk; rw [← h k (by omega), ← h i hi]; exact q k hk
  · intro q k hk; rw [h k (by omega), h i hi]; exact q k hk
theorem cnt_drop {S S' : Nat → Bool} {z : Nat} (hz : S z = true) (hz' : S' z = false) : ∀ {N : Nat}, z < N → (∀ i, i < N → i ≠ z → S' i = S i) → cnt S' N + 1 = cnt S N
  | 0, h, _ => absurd h (by omega)
  | N + 1, h, he => by
    by_cases e : z = N
    · subst e
      rw [cnt_yes hz, cnt_no (by rw [hz']; decide), cnt_congr (S := S') (T := S) (n := z) (fun i hi => he i (by omega) (by omega))]
    · have ih := cnt_drop hz hz' (N := N) (by omega) (fun i hi => he i (by omega))
      have e2 := he N (by omega) (fun q => e q.symm)
      by_cases q : S N = true
      · rw [cnt_yes q, cnt_yes (by rw [e2]; exact q)]; omega
      · rw [cnt_no q, cnt_no (by rw [e2]; exact q)]; omega
theorem least_ex (l : Nat → Nat) (a : Nat) : ∃ a0, a0 ≤ a ∧ l a0 = l a ∧ ∀ k, k < a0 → l k ≠ l a := by
  induction a using Nat.strongRecOn with
  | _ a ih =>
    by_cases h : ∃ k, k < a ∧ l k = l a
    · obtain ⟨k, hk, e⟩ := h
      obtain ⟨a0, h1, h2, h3⟩ := ih k hk;exact ⟨a0, by omega, h2.trans e, fun j hj => by rw [← e]; exact h3 j hj⟩
    · exact ⟨a, Nat.le_refl _, rfl, fun k hk e => h ⟨k, hk, e⟩⟩
theorem dif_join {l : Nat → Nat} {N a b : Nat} (ha : a < N) (hb : b < N) (h : l a ≠ l b) : dif (joinL l a b) N + 1 = dif l N := by
  obtain ⟨a0, a1, a2, a3⟩ := least_ex l a;obtain ⟨b0, b1, b2, b3⟩ := least_ex l b;have hne : a0 ≠ b0 := fun e => h (by rw [← a2, ← b2, e]);have key : ∀ i, i ≠ (if a0 < b0 then b0 else a0) → isF (joinL l a b) i = isF l i := by
    intro i hi
    unfold isF
    apply decide_eq_decide.2
    unfold joinL
    by_cases ea : l i = l a
    · constructor
      · intro q k hk e
        have := q k hk;rw [if_neg (by rw [e, ea]; exact h), if_neg (by rw [ea]; exact h)] at this;exact this e
      · intro q k hk
        have hia : i = a0 := by
          rcases Nat.lt_trichotomy i a0 with c | c | c
          · exact absurd ea (a3 i c)
          · exact c
          · exact absurd (a2.trans ea.symm) (q a0 c)
        subst hia;have hab : i < b0 := by
          rcases Nat.lt_or_ge i b0 with c | c
          · exact c
          · rw [if_neg (by omega)] at hi; exact absurd rfl hi
        rw [if_neg (b3 k (by omega)), if_neg (by rw [ea]; exact h)];exact q k hk
    · by_cases eb : l i = l b
      · constructor
        · intro q k hk e
          have := q k hk;rw [if_pos (by rw [e, eb]), if_pos eb] at this;exact this rfl
        · intro q k hk
          have hib : i = b0 := by
            rcases Nat.lt_trichotomy i b0 with c | c | c
            · exact absurd eb (b3 i c)
            · exact c
            · exact absurd (b2.trans eb.symm) (q b0 c)
          subst hib;have hab : i < a0 := by
            rcases Nat.lt_or_ge i a0 with c | c
            · exact c
            · rw [if_pos (by omega)] at hi; exact absurd rfl hi
          rw [if_neg (b3 k hk), if_pos eb];exact fun e => a3 k (by omega) e
      · constructor
        · intro q k hk e
          have := q k hk;rw [if_neg (by rw [e]; exact eb), if_neg eb] at this;exact this e
        · intro q k hk
          rw [if_neg eb]
          split
          · exact fun e => ea e.symm
          · exact q k hk
  refine cnt_drop (z := if a0 < b0 then b0 else a0) ?_ ?_ (by split <;> omega) (fun i _ hi => key i hi)
  · split
    · exact isF_iff.2 (fun k hk => by rw [b2]; exact b3 k hk)
    · exact isF_iff.2 (fun k hk => by rw [a2]; exact a3 k hk)
  · rw [Bool.eq_false_iff]
    intro q;have q := isF_iff.1 q
    by_cases c : a0 < b0
    · rw [if_pos c] at q
      have := q a0 c
      unfold joinL at this
      rw [if_neg (by rw [a2]; exact h), if_pos b2, a2] at this;exact this rfl
    · rw [if_neg c] at q
      have := q b0 (by omega)
      unfold joinL at this
      rw [if_pos b2, if_neg (by rw [a2]; exact h), a2] at this;exact this rfl
/-! ### Numbers that lead onward to one last number -/
structure UF (N : Nat) (par rt dp : Nat → Nat) : Prop where
  pl : ∀ c, c < N → par c < N
  rl : ∀ c, c < N → rt c < N
  rr : ∀ c, c < N → par (rt c) = rt c
  rp : ∀ c, c < N → rt (par c) = rt c
  r0 : ∀ c, c < N → par c = c → rt c = c
  dl : ∀ c, c < N → par c ≠ c → dp (par c) < dp c
theorem UF.start {N : Nat} : UF N (fun c => c) (fun c => c) (fun _ => 0) := ⟨fun _ h => h, fun _ h => h, fun _ _ => rfl, fun _ _ => rfl, fun _ _ _ => rfl, fun _ _ h => absurd rfl h⟩
def rtU (rt : Nat → Nat) (a b c : Nat) : Nat := if rt c = a then b else rt c
def dpU (rt dp : Nat → Nat) (a b c : Nat) : Nat := if rt c = a then dp c + dp b + 1 else dp c
theorem UF.union {N : Nat} {par rt dp : Nat → Nat} (h : UF N par rt dp) {a b : Nat} (ha : a < N) (hb : b < N) (pa : par a = a) (pb : par b = b) (hne : a ≠ b) : UF N (up par a b) (rtU rt a b) (dpU rt dp a b) := by
  have ra := h.r0 a ha pa;have rb := h.r0 b hb pb;refine ⟨fun c hc => ?_, fun c hc => ?_, fun c hc => ?_, fun c hc => ?_, fun c hc e => ?_, fun c hc e => ?_⟩
  · by_cases q : c = a
    · rw [q, up_eq]; exact hb
    · rw [up_ne q]; exact h.pl c hc
  · unfold rtU; split
    · exact hb
    · exact h.rl c hc
  · unfold rtU
    by_cases q : rt c = a
    · rw [if_pos q, up_ne (fun e => hne e.symm)]; exact pb
    · rw [if_neg q, up_ne q]; exact h.rr c hc
  · unfold rtU
    by_cases q : c = a
    · subst q; rw [up_eq, if_neg (by rw [rb]; exact fun e => hne e.symm), if_pos ra, rb]
    · rw [up_ne q, h.rp c hc]
  · by_cases q : c = a
    · subst q; rw [up_eq] at e; exact absurd e.symm hne
    · rw [up_ne q] at e
      have := h.r0 c hc e
      unfold rtU; rw [this, if_neg q]
  · by_cases q : c = a
    · subst q
      rw [up_eq]
      unfold dpU
      rw [if_neg (by rw [rb]; exact fun e => hne e.symm), if_pos ra]; omega
    · rw [up_ne q] at e ⊢
      have := h.dl c hc e
      unfold dpU
      rw [h.rp c hc]
      split <;> omega
theorem rel_union {N : Nat} {rt l : Nat → Nat} {x y : Nat} (hx : x < N) (hy : y < N) (h : ∀ c d, c < N → d < N → (rt c = rt d ↔ l c = l d)) : ∀ c d, c < N → d < N → (rtU rt (rt x) (rt y) c = rtU rt (rt x) (rt y) d ↔ joinL l x y c = joinL l x y d) := by
  intro c d hc hd;have e1 := h c x hc hx;have e2 := h d x hd hx;have e3 := h c y hc hy;have e4 := h d y hd hy;have e5 := h c d hc hd;have e6 := h x y hx hy
  unfold rtU joinL
  by_cases q1 : rt c = rt x
  · by_cases q2 : rt d = rt x
    · rw [if_pos q1, if_pos q2]
      have := e1.1 q1; have := e2.1 q2
      split <;> split <;> simp_all
    · rw [if_pos q1, if_neg q2]
      have p1 := e1.1 q1;have p2 : ¬ l d = l x := fun e => q2 (e2.2 e)
      by_cases q3 : l d = l y
      · have := e4.2 q3
        rw [if_pos q3]
        split <;> simp_all
      · have p4 : ¬ rt d = rt y := fun e => q3 (e4.1 e)
        rw [if_neg q3]
        constructor
        · intro e; exact absurd e.symm p4
        · intro e
          split at e
          · exact absurd e.symm p2
          · exact absurd (e.symm.trans p1) p2
  · by_cases q2 : rt d = rt x
    · rw [if_neg q1, if_pos q2]
      have p2 := e2.1 q2;have p1 : ¬ l c = l x := fun e => q1 (e1.2 e)
      by_cases q3 : l c = l y
      · have := e3.2 q3
        rw [if_pos q3]
        split <;> simp_all
      · have p4 : ¬ rt c = rt y := fun e => q3 (e3.1 e)
        rw [if_neg q3]
        constructor
        · intro e; exact absurd e p4
        · intro e
          split at e
          · exact absurd e p1
          · exact absurd (e.trans p2) p1
    · rw [if_neg q1, if_neg q2]
      have p1 : ¬ l c = l x := fun e => q1 (e1.2 e);have p2 : ¬ l d = l x := fun e => q2 (e2.2 e)
      by_cases q3 : l c = l y
      · by_cases q4 : l d = l y
        · rw [if_pos q3, if_pos q4]
          have := e3.2 q3; have := e4.2 q4
          simp_all
        · rw [if_pos q3, if_neg q4]
          constructor
          · intro e; exact absurd ((e5.1 e).symm.trans q3) q4
          · intro e; exact absurd e.symm p2
      · by_cases q4 : l d = l y
        · rw [if_neg q3, if_pos q4]
          constructor
          · intro e; exact absurd ((e5.1 e).trans q4) q3
          · intro e; exact absurd e p1
        · rw [if_neg q3, if_neg q4]; exact e5
/-! ### The ends of edges -/
def endK (K : Nat → Int) (x : Nat) : Nat := if 0 < K x then 2 * (K x).natAbs - 1 else 2 * (K x).natAbs - 2
def begK (K : Nat → Int) (x : Nat) : Nat := if 0 < K x then 2 * (K x).natAbs - 2 else 2 * (K x).natAbs - 1
def ldS (K : Nat → Int) : Nat → Nat → Nat
  | 0, c => c
  | x + 1, c => joinL (ldS K x) (endK K x) (begK K (nxt x)) c
def tipV (par tb : Nat → Nat) (c : Nat) : Value := if par c = c then .pointer none else ptr (tb (par c)) 0
structure Tp (D : Froz) (N : Nat) (tb par : Nat → Nat) : Prop where
  mem : ∀ c, c < N → (tb c, #[tipV par tb c]) ∈ D
  inj : ∀ c d, c < N → d < N → tb c = tb d → c = d
structure Gs (D : Froz) (lo N : Nat) (K : Nat → Int) (tw : Nat → Nat) (q u t : Nat) (τ σ φ ψ : Nat → Nat) : Prop where
  sid : ∀ x, x < q → (σ x, SC K tw τ σ φ ψ q u x) ∈ D
  tri : ∀ i, i < t → (τ i, TCv σ i) ∈ D
theorem Tp.join {D : Froz} {N : Nat} {tb par : Nat → Nat} (h : Tp D N tb par) {a b : Nat} (ha : a < N) (hb : b < N) (hne : a ≠ b) : Tp (updD D (tb a) #[ptr (tb b) 0]) N tb (up par a b) := by
  refine ⟨fun c hc => ?_, h.inj⟩
  by_cases e : c = a
  · subst e
    refine mem_updD.2 (.inl ⟨rfl, ?_, _, h.mem c hc⟩)
    unfold tipV; rw [up_eq, if_neg (fun q => hne q.symm)]
  · refine mem_updD.2 (.inr ⟨fun q => e (h.inj c a hc ha q), ?_⟩)
    have := h.mem c hc
    unfold tipV at *
    rw [up_ne e]; exact this
theorem Gs.join {D : Froz} {lo N : Nat} {K : Nat → Int} {tw : Nat → Nat} {q u t : Nat} {τ σ φ ψ : Nat → Nat} (h : Gs D lo N K tw q u t τ σ φ ψ) (hsame : ∀ b cs ds, (b, cs) ∈ D → (b, ds) ∈ D → cs = ds) {b : Nat} {c0 c1 : Array Value} (hb : (b, c0) ∈ D) (hz : c0.size = 1) : Gs (updD D b c1) lo N K tw q u t τ σ φ ψ :=
  ⟨fun x hx => mem_updD.2 (.inr ⟨fun e => by have h2 := hsame _ _ _ (e ▸ h.sid x hx) hb; have h3 : (SC K tw τ σ φ ψ q u x).size = 7 := rfl; rw [h2, hz] at h3; omega, h.sid x hx⟩),
   fun i hi => mem_updD.2 (.inr ⟨fun e => by have h2 := hsame _ _ _ (e ▸ h.tri i hi) hb; have h3 : (TCv σ i).size = 4 := TCv_size; rw [h2, hz] at h3; omega, h.tri i hi⟩)⟩
end Go.Sw

namespace Go.Sw
open Go Go.RowKit Go.Ech
/-! ### An end of an edge compared with nil -/
section
variable {P : Program} {n : Nat} {F : List (Nat × Value)} {a : Act} {w : World} {d : Option Tmp} {t T T' : TypeId} {pos : String} {af : Array Edge} {gd : Option (Nat × Bool)} {x y : Operand} {par tb : Nat → Nat} {c : Nat} {e : TypeId}
theorem run_equal_pnil {q : Option Addr} (hT : P.underlying T = some (.pointer e)) : (Op.equal T (.pointer q) (.pointer none)).run P w = .ok q.isNone w := by
  show (Op.equalIn 10000 T _ _).run P w = _
  rw [Op.equalIn]
  cases q <;> simp [run_underlying hT]
theorem g_neqTip (hT : P.underlying T = some (.pointer e)) (hF : Fr n a F) (hx : look F x = some (tipV par tb c)) (hy : look F y = some (.pointer none)) : Gives P ⟨d, .binOp .neq T x y T', t, pos, af, gd⟩ a w (.bool (decide (par c ≠ c))) :=
  gives_of_run (by
    by_cases h : par c = c
    · have hx2 : look F x = some (.pointer none) := by rw [hx]; unfold tipV; rw [if_pos h]
      have hg : (eqGuard .neq T x y (.pointer none) (.pointer none)).run P w = .ok () w := by unfold eqGuard; simp
      have he := run_equal_pnil (P := P) (w := w) (q := none) hT
      simp only [execOp, Sem.run_bind, hF.eval hx2, hF.eval hy, hg, Result.andThen]
      simp [binOp, he, h]
    · have hx2 : look F x = some (.pointer (some ⟨tb (par c), 0, none⟩)) := by rw [hx]; unfold tipV; rw [if_neg h]
      have hg : (eqGuard .neq T x y (.pointer (some ⟨tb (par c), 0, none⟩)) (.pointer none)).run P w = .ok () w := by unfold eqGuard; simp
      have he := run_equal_pnil (P := P) (w := w) (q := some ⟨tb (par c), 0, none⟩) hT
      simp only [execOp, Sem.run_bind, hF.eval hx2, hF.eval hy, hg, Result.andThen]
      simp [binOp, he, h])
end
end Go.Sw
