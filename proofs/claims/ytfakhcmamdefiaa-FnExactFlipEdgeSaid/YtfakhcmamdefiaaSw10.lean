/- Plain lemmas of a small calculus for walks over frames and own memory; no statement of the seat is proved here. -/
import Derived.Test.YtfakhcmamdefiaaSw81
import Derived.LaidEql
import Derived.JoinedOf
import Derived.KernelRfl
set_option linter.unusedVariables false
set_option linter.unusedSimpArgs false
namespace Go.Sw
open Go Go.RowKit Go.Ech
variable {P : Program}
/-! ### 'append', and what it leaves as it was: maps -/
theorem run_appendM {X : List Nat} {w0 w : World} {L : Own} {D : Froz} {T e : TypeId} {z : Value} {size bytes n k m bx ox cx : Nat} {v : Value} {ent : Option (Nat × Array Value)} {f g : Nat → Value} (hT : slI P T = some (e, some z, size, bytes)) (hz : z.cells.size = size) (hs0 : 0 < size)
    (hM : MemX X w0 w L D) (hk : L[k]? = some ent) (hv : Sl size v ent n f) (hg : ∀ i, i < m * size → w.cell? ⟨bx, ox + i, none⟩ = some (g i)) (h1 : ∀ i, i < m * size → (g i).oneCell' = true)
    (hm : 0 < m) (h63 : n + m ≤ maxLen) (hb : (n + m) * bytes ≤ 140737488355328) (ty : TypeId) :
    ∃ u w' e', (Builtin.append_ #[T, T] ty #[v, .slice (some ⟨bx, ox, none⟩) m cx]).run P w = .ok u w' ∧ MemX X w0 w' (L.set k e') D ∧ Sl size u e' (n + m) (fun i => if i < n * size then f i else g (i - n * size)) ∧ ∀ q es c, IsMap w q es c → IsMap w' q es c := by
  unfold slI at hT
  cases hu : P.underlying T with
  | none => simp [hu] at hT
  | some dd =>
    cases dd <;> simp [hu] at hT
    rename_i el
    obtain ⟨inf, hinf, rfl, hz0, hsz, hby⟩ := hT;subst hsz; subst hby
    have hm0 : n + m ≤ 9223372036854775807 := by simp only [maxLen] at h63; omega
    have hnl : (((List.range (m * inf.size)).map g)).length = m * inf.size := by simp
    have hnews : ∀ j u, ((List.range (m * inf.size)).map g)[j]? = some u → w.cell? ((⟨bx, ox, none⟩ : Addr).add j) = some u := by
      intro j u hj;have hlt : j < m * inf.size := by have := (List.getElem?_eq_some_iff.1 hj).1; simpa using this
      rw [Addr.add_lit, hg j hlt]
      simp [hlt] at hj; rw [hj]
    have hone : ∀ u ∈ (List.range (m * inf.size)).map g, u.oneCell' = true := by
      intro u hu';obtain ⟨i, hi, rfl⟩ := List.mem_map.1 hu';exact h1 i (by simpa using hi)
    rcases hv with ⟨rfl, rfl, rfl⟩ | ⟨b, cap, cs, hat⟩
    · have hr := run_append_nil (P := P) w T ty el inf z hu hinf hz0 ⟨bx, ox, none⟩ m cx _ hnl hnews hm (by omega) (by simp only [Nat.zero_add] at hb; omega)
      refine ⟨_, _, _, hr, hM.fill (heap_drew_alloc _ _) k (Blk.new w.drew _ _) (Nat.le_refl _), .inr ⟨_, _, _, ⟨by rw [Nat.zero_add]; rfl, rfl, ?_, grownCap_le_maxLen w m 0 el (by omega), ?_, ?_⟩⟩, fun q es c h => h.ext (heap_drew_alloc _ _)⟩
      · have := grownCap_ge w m 0 el; omega
      · have := grownCap_ge w m 0 el
        simp only [Array.size_append, List.size_toArray, hnl, size_zeroCells, hz, ← Nat.add_mul]
        congr 1; omega
      · intro i hi
        rw [Nat.zero_add] at hi;rw [if_neg (by simp), Array.getElem?_append, if_pos (by simpa using hi)]
        simp [hi]
    · obtain ⟨rfl, rfl, hle, hmax, hcsz, hget⟩ := hat
      have hblk := hM.row k hk
      by_cases hroom : n + m ≤ cap
      · obtain ⟨tt, hgg⟩ := hblk
        have hf := run_firstCells_some (P := P) w inf.size m ⟨bx, ox, none⟩ m cx _ hnl hnews;have hfit : n * inf.size + ((List.range (m * inf.size)).map g).length ≤ cs.size := by rw [hnl, hcsz, ← Nat.add_mul]; exact Nat.mul_le_mul_right _ hroom
        have hst := run_storeCells_at P b (n * inf.size) tt ((List.range (m * inf.size)).map g) 0 cs w hgg (by simpa using hfit) hone;simp only [Nat.add_zero] at hst;have hr : (Builtin.append_ #[T, T] ty #[.slice (some ⟨b, 0, none⟩) n cap, .slice (some ⟨bx, ox, none⟩) m cx]).run P w = .ok (.slice (some ⟨b, 0, none⟩) (n + m) cap) (w.setRow b (splice cs (n * inf.size) ((List.range (m * inf.size)).map g).toArray)) := by
          simp [Builtin.append_, run_underlying hu, Go.sizeOf, typeInfo, hinf, Builtin.lenOf, hroom, hf, Addr.add_lit, hst, splice]
        refine ⟨_, _, _, hr, hM.setRow k hk _, .inr ⟨_, _, _, ⟨rfl, rfl, hroom, hmax, ?_, ?_⟩⟩, fun q es c h => h.setRow (hM.row k hk)⟩
        · rw [splice_size _ _ _ (by simpa using hfit), hcsz]
        · intro i hi
          rw [splice_get _ _ _ _ (by simpa using hfit)];have e1 : (n + m) * inf.size = n * inf.size + m * inf.size := Nat.add_mul ..
          by_cases hlt : i < n * inf.size
          · rw [if_neg (by omega), if_pos hlt]; exact hget i hlt
          · rw [if_pos (by simp only [List.size_toArray, List.length_map, List.length_range]; omega), if_neg hlt]
            rw [List.getElem?_toArray, List.getElem?_map, List.getElem?_range (by omega)]; rfl
      · have holds : ∀ j u, ((List.range (n * inf.size)).map f)[j]? = some u → w.cell? ((⟨b, 0, none⟩ : Addr).add j) = some u := by
          intro j u hj;have hlt : j < n * inf.size := by have := (List.getElem?_eq_some_iff.1 hj).1; simpa using this
          rw [Addr.add_lit, Nat.zero_add, hblk.cell, hget j hlt]
          simp [hlt] at hj; rw [hj]
        have hr := run_append_grow (P := P) w T ty el inf z hu hinf hz0 ⟨b, 0, none⟩ n cap ((List.range (n * inf.size)).map f) (by simp) holds ⟨bx, ox, none⟩ m cx _ hnl hnews (by omega) (by omega) (growslice_fits (by omega) hb);refine ⟨_, _, _, hr, hM.fill (heap_drew_alloc _ _) k (Blk.new w.drew _ _) (Nat.le_refl _), .inr ⟨_, _, _, ⟨rfl, rfl, grownCap_ge w _ _ _, grownCap_le_maxLen w _ _ _ h63, ?_, ?_⟩⟩, fun q es c h => h.ext (heap_drew_alloc _ _)⟩
        · have := grownCap_ge w (n + m) cap el
          simp only [Array.size_append, List.size_toArray, hnl, size_zeroCells, hz, List.length_map, List.length_range, ← Nat.add_mul]
          congr 1; omega
        · intro i hi
          have e1 : (n + m) * inf.size = n * inf.size + m * inf.size := Nat.add_mul ..;rw [Array.getElem?_append, if_pos (by simp only [Array.size_append, List.size_toArray, List.length_map, List.length_range]; omega), Array.getElem?_append]
          by_cases hlt : i < n * inf.size
          · rw [if_pos (by simpa using hlt), if_pos hlt]; simp [hlt]
          · rw [if_neg (by simpa using hlt), if_neg hlt]
            simp only [List.size_toArray, List.length_map, List.length_range];rw [List.getElem?_toArray, List.getElem?_map, List.getElem?_range (by omega)]; rfl
section
variable {ops : Array Oper} {Q : Exit → Act → World → Prop} {rest : List Oper} {n : Nat} {F : List (Nat × Value)} {a : Act} {X : List Nat} {w w0 : World} {L : Own} {D : Froz}
variable {d : Option Tmp} {t : TypeId} {pos : String} {af : Array Edge} {gd : Option (Nat × Bool)} {T : TypeId} {x y : Operand}
theorem d_appendM {e : TypeId} {z : Value} {size bytes N k m bx ox cx : Nat} {v : Value} {ent : Option (Nat × Array Value)} {f g : Nat → Value} (hT : slI P T = some (e, some z, size, bytes)) (hz : z.cells.size = size) (hs0 : 0 < size)
    (hM : MemX X w0 w L D) (hk : L[k]? = some ent) (hF : Fr n a F) (hx : look F x = some v) (hy : look F y = some (.slice (some ⟨bx, ox, none⟩) m cx)) (hv : Sl size v ent N f) (hg : ∀ i, i < m * size → w.cell? ⟨bx, ox + i, none⟩ = some (g i)) (h1 : ∀ i, i < m * size → (g i).oneCell' = true)
    (hm : 0 < m) (h63 : N + m ≤ maxLen) (hb : (N + m) * bytes ≤ 140737488355328) :
    Does P ⟨d, .call { callee := .builtin .append, args := #[x, y], argTypes := #[T, T] }, t, pos, af, gd⟩ a w (fun u w' => ∃ e', MemX X w0 w' (L.set k e') D ∧ Sl size u e' (N + m) (fun i => if i < N * size then f i else g (i - N * size)) ∧ ∀ q es c, IsMap w q es c → IsMap w' q es c) :=
  ⟨fun K Q hK => by
    obtain ⟨u, w', e', hr, h2, h3, h4⟩ := run_appendM (P := P) (T := T) hT hz hs0 hM hk hv hg h1 hm h63 hb t
    unfold Oper.wp execOp
    simp only [resolve, invoke, builtin, Sem.run_bind, Sem.run_pure, Result.andThen_ok, List.map_toArray, List.map_cons, List.map_nil, hF.eval hx, hF.eval hy]
    rw [hr]
    exact hK u w' ⟨e', h2, h3, h4⟩⟩
theorem d_storeDM {b o : Nat} {cs : Array Value} {v : Value} (hM : MemX X w0 w L D) (hk0 : (b, cs) ∈ D) (ho' : w0.heap.size ≤ b ∨ b ∈ X) (hT : oneP P T = true) (hF : Fr n a F) (hx : look F x = some (ptr b o)) (hy : look F y = some v)
    (h1 : v.oneCell' = true) (ho : o < cs.size) :
    Does P ⟨d, .store T x y, t, pos, af, gd⟩ a w (fun _ w' => MemX X w0 w' L (updD D b (cs.setIfInBounds o v)) ∧ ∀ q es c, IsMap w q es c → IsMap w' q es c) := by
  have hb := (hM.froz b cs hk0).1;have hs := (run_isAgg_one hT w).2;obtain ⟨tt, hg⟩ := hb;have hM' := hM.setD hk0 ho' (cs.setIfInBounds o v);have hst := run_storeCells_at P b o tt [v] 0 cs w hg (by simp; omega) (by simpa using h1);have e : (List.take (o + 0) cs.toList ++ [v] ++ List.drop (o + 0 + [v].length) cs.toList).toArray = cs.setIfInBounds o v := by
    apply Array.toList_inj.1
    simp [List.set_eq_take_append_cons_drop, ho]
  rw [e] at hst;have hcs : v.cells = #[v] := by cases v <;> first | rfl | (simp [Value.oneCell'] at h1)
  refine ⟨fun K Q hk => ?_⟩;have hrun : (execOp a.eval ⟨d, .store T x y, t, pos, af, gd⟩).run P w = .ok .skip (w.setRow b (cs.setIfInBounds o v)) := by
    simp [execOp, Instr.storeAt, Instr.sureAddr, hF.eval hx, hF.eval hy, storeVar, hs, hcs, hst]
  unfold Oper.wp
  rw [hrun];exact hk _ _ ⟨hM', fun q es c h => h.setRow (hM.froz b cs hk0).1⟩
end
/-! ### Memory behind a side that was linked -/
theorem Blk.keepX {w w' : World} {Y : List Nat} {b : Nat} {cs : Array Value} (h : Blk w b cs) (hx : ExtX Y w w') (hn : b ∉ Y) : Blk w' b cs := by
  have hlt := h.lt;obtain ⟨t, ht⟩ := h;exact ⟨t, by rw [hx.block _ hlt hn]; exact ht⟩
theorem link_memF {w0 w w' : World} {L : Own} {D : Froz} {bS bM b1 b2 ec : Nat} {es : Array MapEntry} {cs cs' c1 c2 : Array Value} (hM : Mem w0 w L ((bS, cs) :: D)) (hmap : IsMap w bM es ec) (hgM : w0.heap.size ≤ bM) (hgS : w0.heap.size ≤ bS) (hbS : ∀ y ds, (y, ds) ∈ D → y ≠ bS)
    (hx : ExtX [bS, bM] w w') (hb : Blk w' bS cs') (h1 : Blk w' b1 c1) (h2 : Blk w' b2 c2) (hg1 : w.heap.size ≤ b1) (hg2 : w.heap.size ≤ b2) : Mem w0 w' L ((bS, cs') :: (b1, c1) :: (b2, c2) :: D) := by
  refine hM.renew hx (fun y hy => ?_) (fun k b ds hk hy => ?_) (fun b ds hb2 => ?_)
  · simp only [List.mem_cons, List.not_mem_nil, or_false] at hy
    rcases hy with rfl | rfl
    · exact .inl hgS
    · exact .inl hgM
  · simp only [List.mem_cons, List.not_mem_nil, or_false] at hy
    rcases hy with rfl | rfl
    · exact (hM.froz _ _ (List.mem_cons_self ..)).2 k _ _ hk rfl
    · exact (hM.blk k _ _ hk).2.no_map hmap
  · rcases List.mem_cons.1 hb2 with e | hb3
    · simp only [Prod.mk.injEq] at e; obtain ⟨rfl, rfl⟩ := e; exact ⟨hb, .inl ⟨_, List.mem_cons_self ..⟩⟩
    rcases List.mem_cons.1 hb3 with e | hb4
    · simp only [Prod.mk.injEq] at e; obtain ⟨rfl, rfl⟩ := e; exact ⟨h1, .inr hg1⟩
    rcases List.mem_cons.1 hb4 with e | hb5
    · simp only [Prod.mk.injEq] at e; obtain ⟨rfl, rfl⟩ := e; exact ⟨h2, .inr hg2⟩
    · have h0 := hM.fzm (List.mem_cons_of_mem _ hb5)
      exact ⟨h0.keepX hx (fun hy => by
        simp only [List.mem_cons, List.not_mem_nil, or_false] at hy
        rcases hy with rfl | rfl
        · exact hbS _ _ hb5 rfl
        · exact h0.no_map hmap), .inl ⟨_, List.mem_cons_of_mem _ hb5⟩⟩
theorem link_memS {w0 w w' : World} {L : Own} {D : Froz} {bS by_ : Nat} {cs cs' cy cy' : Array Value} (hM : Mem w0 w L ((bS, cs) :: D)) (hy : (by_, cy) ∈ D) (hgS : w0.heap.size ≤ bS) (hgY : w0.heap.size ≤ by_) (hbS : ∀ y ds, (y, ds) ∈ D → y ≠ bS)
    (hx : ExtX [bS, by_] w w') (hb : Blk w' bS cs') (hb2 : Blk w' by_ cy') : Mem w0 w' L ((bS, cs') :: updD D by_ cy') := by
  refine hM.renew hx (fun y hy => ?_) (fun k b ds hk hy2 => ?_) (fun b ds hb3 => ?_)
  · simp only [List.mem_cons, List.not_mem_nil, or_false] at hy
    rcases hy with rfl | rfl
    · exact .inl hgS
    · exact .inl hgY
  · simp only [List.mem_cons, List.not_mem_nil, or_false] at hy2
    rcases hy2 with rfl | rfl
    · exact (hM.froz _ _ (List.mem_cons_self ..)).2 k _ _ hk rfl
    · exact (hM.froz _ _ (List.mem_cons_of_mem _ hy)).2 k _ _ hk rfl
  · rcases List.mem_cons.1 hb3 with e | hb3
    · simp only [Prod.mk.injEq] at e; obtain ⟨rfl, rfl⟩ := e; exact ⟨hb, .inl ⟨_, List.mem_cons_self ..⟩⟩
    rcases mem_updD.1 hb3 with ⟨rfl, rfl, es, he⟩ | ⟨hne, he⟩
    · exact ⟨hb2, .inl ⟨_, List.mem_cons_of_mem _ he⟩⟩
    · have h0 := hM.fzm (List.mem_cons_of_mem _ he)
      exact ⟨h0.keepX hx (fun hy2 => by
        simp only [List.mem_cons, List.not_mem_nil, or_false] at hy2
        rcases hy2 with rfl | rfl
        · exact hbS _ _ he rfl
        · exact hne rfl), .inl ⟨_, List.mem_cons_of_mem _ he⟩⟩
section
variable {K : Nat → Int} {tw τ σ φ ψ : Nat → Nat} {q u bx b1 b2 bT : Nat} {k : Int}
theorem SC_first (hu : u ≤ q) (hf : q < tw q) (hτ : τ (q / 3) = bT) (hk : K q = k) : SC K tw τ (up σ q bx) (up φ q b1) (up ψ q b2) (q + 1) u q = sdC k (ptr bT 0) (.pointer none) (.pointer none) (ptr b1 0) (ptr b2 0) 0 := by
  unfold SC onP frT toT
  rw [if_neg (by omega), if_neg (by omega), if_neg (by omega), if_neg (by omega), up_eq, up_eq, hτ, hk]
theorem SC_second (hu : u ≤ q) (hf : tw q < q) (hτ : τ (q / 3) = bT) (hk : K q = k) : SC K tw τ (up σ q bx) φ ψ (q + 1) u q = sdC k (ptr bT 0) (.pointer none) (ptr (σ (tw q)) 0) (if k = K (tw q) then ptr (φ (tw q)) 0 else ptr (ψ (tw q)) 0) (if k = K (tw q) then ptr (ψ (tw q)) 0 else ptr (φ (tw q)) 0) 0 := by
  unfold SC onP frT toT
  rw [if_neg (by omega), if_pos (by omega), if_pos hf, if_pos hf, up_ne (by omega), hτ, hk]
  by_cases e : k = K (tw q)
  · simp only [if_pos e]
  · simp only [if_neg e]
theorem SC_old {y : Nat} (hf : y < tw y) (hq : ¬ tw y < q) : SC K tw τ σ φ ψ q u y = sdC (K y) (ptr (τ (y / 3)) 0) (onP (y < u) (σ (nxt y))) (.pointer none) (ptr (φ y) 0) (ptr (ψ y) 0) 0 := by
  unfold SC frT toT
  rw [if_neg (by omega), if_neg (by omega)]
  unfold onP
  rw [if_neg hq]
theorem SC_twin {y : Nat} (hf : y < tw y) (hq : tw y = q) (hn : y < u → nxt y ≠ q) : SC K tw τ (up σ q bx) φ ψ (q + 1) u y = sdC (K y) (ptr (τ (y / 3)) 0) (onP (y < u) (σ (nxt y))) (ptr bx 0) (ptr (φ y) 0) (ptr (ψ y) 0) 0 := by
  unfold SC frT toT
  rw [if_neg (by omega), if_neg (by omega), hq, up_eq];have e1 : onP (y < u) (up σ q bx (nxt y)) = onP (y < u) (σ (nxt y)) := by
    unfold onP
    by_cases e : y < u
    · rw [if_pos e, if_pos e, up_ne (hn e)]
    · rw [if_neg e, if_neg e]
  have e2 : onP (q < q + 1) bx = ptr bx 0 := by unfold onP; rw [if_pos (by omega)]
  rw [e1, e2]
theorem SC_next : (SC K tw τ σ φ ψ q u u).setIfInBounds (0 + 2) (ptr (σ (nxt u)) 0) = SC K tw τ σ φ ψ q (u + 1) u := by
  have e2 : onP (u < u + 1) (σ (nxt u)) = ptr (σ (nxt u)) 0 := by unfold onP; rw [if_pos (by omega)]
  unfold SC
  rw [e2]
  rfl
end
end Go.Sw

namespace Go.Sw
open Go Go.RowKit Go.Ech
section
variable {P : Program} {n : Nat} {F : List (Nat × Value)} {a : Act} {w : World} {d : Option Tmp} {t T T' e : TypeId} {pos : String} {af : Array Edge} {gd : Option (Nat × Bool)} {x y : Operand} {b1 b2 : Nat} {c1 c2 : Array Value}
/-! ### Pointers compared -/
theorem run_equal_ptr {z : Nat} (hT : P.underlying T = some (.pointer e)) (hz : sizeP P e = some (z + 1)) (h1 : Blk w b1 c1) (h2 : Blk w b2 c2) : (Op.equal T (ptr b1 0) (ptr b2 0)).run P w = .ok (decide (b1 = b2)) w := by
  show (Op.equalIn 10000 T _ _).run P w = _
  obtain ⟨t1, h1⟩ := h1;obtain ⟨t2, h2⟩ := h2
  unfold sizeP at hz
  cases hi : P.info? e with
  | none => simp [hi] at hz
  | some j =>
    simp [hi] at hz
    rw [Op.equalIn]
    by_cases hb : b1 = b2
    · subst hb
      simp [ptr, run_underlying hT, Go.sizeOf, typeInfo, hi, hz, run_sameAddr_same]
    · have hne : (⟨b1, 0, none⟩ : Addr) ≠ ⟨b2, 0, none⟩ := fun q => hb (congrArg Addr.block q)
      have hs := run_sameAddr_other (P := P) w hne (ha := h1) (hb := h2)
      simp [ptr, run_underlying hT, Go.sizeOf, typeInfo, hi, hz, hs, hb]
theorem g_eqlPtr {z : Nat} (hT : P.underlying T = some (.pointer e)) (hz : sizeP P e = some (z + 1)) (h1 : Blk w b1 c1) (h2 : Blk w b2 c2) (hF : Fr n a F) (hx : look F x = some (ptr b1 0)) (hy : look F y = some (ptr b2 0)) : Gives P ⟨d, .binOp .eql T x y T', t, pos, af, gd⟩ a w (.bool (decide (b1 = b2))) :=
  gives_of_run (by
    have hg : (eqGuard .eql T x y (ptr b1 0) (ptr b2 0)).run P w = .ok () w := by unfold eqGuard; simp [ptr]
    have he := run_equal_ptr (T := T) hT hz h1 h2
    simp only [execOp, Sem.run_bind, hF.eval hx, hF.eval hy, hg, Result.andThen]
    simp [binOp, ptr] at he ⊢
    simp [he])
end
theorem Gr.tinj {D : Froz} {lo N : Nat} {K : Nat → Int} {tw : Nat → Nat} {q u t : Nat} {τ σ φ ψ : Nat → Nat} (h : Gr D lo N K tw q u t τ σ φ ψ) (hsame : ∀ b cs ds, (b, cs) ∈ D → (b, ds) ∈ D → cs = ds) {i j : Nat} (hi : i < t) (hj : j < t) (e : τ i = τ j) : i = j := by
  have h1 := h.tri i hi;have h2 := h.tri j hj;rw [e] at h1;have e2 := hsame _ _ _ h1 h2;have h3 : (TCv σ i)[0]? = (TCv σ j)[0]? := by rw [e2]
  have h4 : (TCv σ i)[0]? = some (.int .i64 (i : Int)) := trC_0 rfl;have h5 : (TCv σ j)[0]? = some (.int .i64 (j : Int)) := trC_0 rfl;rw [h4, h5] at h3;have h6 := Option.some.inj h3
  injection h6 with _ h7
  exact Int.ofNat.inj h7
theorem ssoutr_two {w w' : World} {L : Own} {D : Froz} {m i j q bO cO b1 b2 : Nat} {csO c1 c2 : Array Value} {β κ : Nat → Nat} {C : Nat → Array Value} {F : Nat → Nat → Int}
    (hM : Mem w w' L D) (hRC : RowsC D m β C) (hq : L[q]? = some (some (bO, csO))) (hi : i < m) (hj : j < m) (hij : i ≠ j)
    (hs : SlAt 1 (.slice (some ⟨bO, 0, none⟩) m cO) (some (bO, csO)) m bO cO csO (fun k => if k = j then .slice (some ⟨b2, 0, none⟩) 3 3 else if k = i then .slice (some ⟨b1, 0, none⟩) 3 3 else .slice (some ⟨β k, 0, none⟩) 3 (κ k)))
    (hm1 : (b1, c1) ∈ D) (hm2 : (b2, c2) ∈ D) (h12 : b1 ≠ b2) (hg1 : w.heap.size ≤ b1) (hg2 : w.heap.size ≤ b2) (hn1 : ∀ k, k < m → b1 ≠ β k) (hn2 : ∀ k, k < m → b2 ≠ β k) (hgK : ∀ k, k < m → w.heap.size ≤ β k)
    (hrK : ∀ k, k < m → k ≠ i → k ≠ j → SlAt 1 (.slice (some ⟨β k, 0, none⟩) 3 (κ k)) (some (β k, C k)) 3 (β k) (κ k) (C k) (fun c => .int .i64 (F k c)))
    (h1 : SlAt 1 (.slice (some ⟨b1, 0, none⟩) 3 3) (some (b1, c1)) 3 b1 3 c1 (fun c => .int .i64 (F i c)))
    (h2 : SlAt 1 (.slice (some ⟨b2, 0, none⟩) 3 3) (some (b2, c2)) 3 b2 3 c2 (fun c => .int .i64 (F j c))) : SSOutR w w' m (fun _ => 3) F (.slice (some ⟨bO, 0, none⟩) m cO) := by
  let β' : Nat → Nat := fun k => if k = j then b2 else if k = i then b1 else β k
  let κ' : Nat → Nat := fun k => if k = j then 3 else if k = i then 3 else κ k
  let C' : Nat → Array Value := fun k => if k = j then c2 else if k = i then c1 else C k
  have cases3 : ∀ k, k < m → (k = j ∧ β' k = b2 ∧ κ' k = 3 ∧ C' k = c2) ∨ (k = i ∧ β' k = b1 ∧ κ' k = 3 ∧ C' k = c1) ∨ (k ≠ i ∧ k ≠ j ∧ β' k = β k ∧ κ' k = κ k ∧ C' k = C k) := fun k hk => by
    show (k = j ∧ (if k = j then b2 else if k = i then b1 else β k) = b2 ∧ (if k = j then 3 else if k = i then 3 else κ k) = 3 ∧ (if k = j then c2 else if k = i then c1 else C k) = c2) ∨ (k = i ∧ (if k = j then b2 else if k = i then b1 else β k) = b1 ∧ (if k = j then 3 else if k = i then 3 else κ k) = 3 ∧ (if k = j then c2 else if k = i then c1 else C k) = c1) ∨ (k ≠ i ∧ k ≠ j ∧ (if k = j then b2 else if k = i then b1 else β k) = β k ∧ (if k = j then 3 else if k = i then 3 else κ k) = κ k ∧ (if k = j then c2 else if k = i then c1 else C k) = C k)
    by_cases e1 : k = j
    · exact .inl ⟨e1, if_pos e1, if_pos e1, if_pos e1⟩
    · by_cases e2 : k = i
      · exact .inr (.inl ⟨e2, by rw [if_neg e1, if_pos e2], by rw [if_neg e1, if_pos e2], by rw [if_neg e1, if_pos e2]⟩)
      · exact .inr (.inr ⟨e2, e1, by rw [if_neg e1, if_neg e2], by rw [if_neg e1, if_neg e2], by rw [if_neg e1, if_neg e2]⟩)
  refine SSOutR.of (q := q) (Ln := fun _ => 3) (β := β') (κ := κ') (C := C') hM ⟨fun k hk => ?_, fun x y hx hy e => ?_⟩ hq (hs.congr fun k hk => ?_) (fun k hk => ?_) (fun k hk => ?_)
  · rcases cases3 k hk with ⟨_, a, _, c⟩ | ⟨_, a, _, c⟩ | ⟨_, _, a, _, c⟩ <;> rw [a, c]
    · exact hm2
    · exact hm1
    · exact hRC.mem k hk
  · rcases cases3 x hx with ⟨p, a, _⟩ | ⟨p, a, _⟩ | ⟨p, p2, a, _⟩ <;> rcases cases3 y hy with ⟨r, c, _⟩ | ⟨r, c, _⟩ | ⟨r, r2, c, _⟩ <;> rw [a, c] at e
    · omega
    · exact absurd e.symm h12
    · exact absurd e (hn2 y hy)
    · exact absurd e h12
    · omega
    · exact absurd e (hn1 y hy)
    · exact absurd e.symm (hn2 x hx)
    · exact absurd e.symm (hn1 x hx)
    · exact hRC.inj x y hx hy e
  · have hk : k < m := by omega
    rcases cases3 k hk with ⟨p, a, b, _⟩ | ⟨p, a, b, _⟩ | ⟨p, p2, a, b, _⟩ <;> rw [a, b]
    · rw [if_pos p]
    · rw [if_neg (by omega), if_pos p]
    · rw [if_neg p2, if_neg p]
  · rcases cases3 k hk with ⟨_, a, _⟩ | ⟨_, a, _⟩ | ⟨_, _, a, _⟩ <;> rw [a]
    · exact hg2
    · exact hg1
    · exact hgK k hk
  · rcases cases3 k hk with ⟨p, a, b, c⟩ | ⟨p, a, b, c⟩ | ⟨p, p2, a, b, c⟩ <;> rw [a, b, c]
    · subst p; exact h2
    · subst p; exact h1
    · exact hrK k hk p p2
end Go.Sw

namespace Go.Sw
theorem wordsSigns_nb : ∀ (c : Char) (r : List Char), c ≠ ' ' → wordsSigns (c :: r) = match wordsSigns r with
    | w :: ws => (c :: w) :: ws
    | [] => [[c]] := by
  intro c r h;rw [wordsSigns.eq_def]
  split
  · simp_all
  · rename_i heq; simp at heq; exact absurd heq.1 h
  · rename_i heq; simp only [List.cons.injEq] at heq; obtain ⟨rfl, rfl⟩ := heq; rfl
theorem wordsSigns_word : ∀ (w r : List Char), (∀ c ∈ w, c ≠ ' ') → wordsSigns (w ++ ' ' :: r) = w :: wordsSigns r
  | [], r, _ => by simp [wordsSigns]
  | c :: w, r, h => by
    rw [List.cons_append, wordsSigns_nb c _ (h c (by simp)), wordsSigns_word w r (fun d hd => h d (by simp [hd]))]
theorem sum_nb (s : List Char) (h : isSumSigns s = true) : ∀ c ∈ s, c ≠ ' ' := by
  intro c hc he
  unfold isSumSigns at h
  simp only [Bool.and_eq_true, List.all_eq_true] at h;have := h.2 c hc;subst he
  revert this; decide
theorem cutHead (L s r : List Char) (h : L = "harness".toList ++ ' ' :: (s ++ ' ' :: ("cut".toList ++ ' ' :: r))) (hs : isSumSigns s = true) :
    behindMainWord (wordsSigns L) = "cut".toList :: wordsSigns r := by
  rw [h, wordsSigns_word _ _ (by decide), wordsSigns_word _ _ (sum_nb s hs), wordsSigns_word _ _ (by decide)];have : ("harness".toList == "harness".toList || "harness".toList == "ownmain".toList) = true := by decide
  unfold behindMainWord
  show (if (("harness".toList == "harness".toList || "harness".toList == "ownmain".toList) && isSumSigns s) = true then _ else _) = _
  rw [if_pos (by rw [this, hs]; rfl)]
theorem strip_cut (R : List (List Char)) : stripLifts liftWords ("cut".toList :: R) = ([], "cut".toList :: R) := by
  kernel_rfl
theorem lifts_cut (P : Program) (R : List (List Char)) (h : behindMainWord (wordsSigns P.initOrder.toList) = "cut".toList :: R) : P.headLifts = [] := by
  unfold Program.headLifts; rw [h, strip_cut]; rfl
theorem make_cut (P : Program) (R : List (List Char)) (h : behindMainWord (wordsSigns P.initOrder.toList) = "cut".toList :: R) : P.make = some .cut := by
  unfold Program.make; rw [h]
  have h1 : ("cut".toList == "gc".toList || "cut".toList == "spec".toList) = false := by decide
  have h2 : ("cut".toList == "cut".toList) = true := by decide
  simp only [h1, h2]; rfl
theorem final_cut (P : Program) (R : List (List Char)) (h : behindMainWord (wordsSigns P.initOrder.toList) = "cut".toList :: R) : P.liftsFinal = false := by
  unfold Program.liftsFinal; rw [lifts_cut P R h, h]; kernel_rfl
theorem enter_cut (P : Program) (R : List (List Char)) (h : behindMainWord (wordsSigns P.initOrder.toList) = "cut".toList :: R)
    (hl : P.laysLater = false) (hb : P.bearsReflect = false) (hd : P.doorFits [] = true) : P.mayEnter = true := by
  unfold Program.mayEnter; rw [h]
  simp only [strip_cut, hl, hb, hd]
  kernel_rfl
end Go.Sw
