/-
  Layer 8: rows of declarations that the call appends to; a declaration and a list, opened with what the reach says.
-/
import Derived.Test.YtmnhnighlgpjmaaVGrow
import Derived.Deep.RegionLaw
import Derived.Deep.RegionHeld3
import Derived.SizedLaws
import Derived.Laws.AppendOwn
import Derived.Maps.AppendAt
namespace Go.Proofs.Ytmnhnighlgpjmaa
set_option linter.unusedVariables false
set_option linter.unusedSimpArgs false
open Go.ChangeShapes Go.WideShapes Go.RowKit Go.Joins Go.Deep

theorem blkV {w : World} {b : Nat} {cs : Array Value} {t : TypeId} (h : w.heap[b]? = some (.cells cs t)) (k : Nat) : w.cell? ⟨b, k, none⟩ = cs[k]? := by
  unfold World.cell?; simp only [h]; rfl
theorem infoVD : (Try.prog.info? 25).map (fun i => (i.zero, i.size, i.bytes)) = some (some (.agg #[.string (bs []), .slice none 0 0]), 2, 40) := by kernel_rfl
theorem dl_len (a : ByteArray) : a.data.toList.length = a.size := by simp
theorem bytesVD : Try.prog.bytesOf 25 = 40 := by kernel_rfl

section
variable {H : Type} {enc' : TypeId × Value → H} {W : World}
set_option maxRecDepth 100000 in
theorem open_vdz {v : Value} {d : DataW H} {p : List MemPlace} {b0 : Nat} {r : Reach} (hv : Value.okWide Try.prog W r b0 22 v) (h : DataW.Trod enc' Try.prog W 0 (fun _ => true) true 22 v d p)
    (hw : ∀ m ∈ d.weights Try.prog 22, m ≤ reachBytes) : ∃ l : VL, VRow W W.heap.size v l ∧ l.length * 40 ≤ reachBytes := by
  obtain ⟨l, hl⟩ := open_vds hv h
  refine ⟨l, hl, ?_⟩
  obtain ⟨A, cp, he, _⟩ := hl
  obtain ⟨fuel, hf⟩ := h
  rcases open_slice Try.underlying22 hf with ⟨hcs, _⟩ | ⟨a, len, cap, m, n, D, Pl, hcs, _, hle, hm, hmm, hx, hi⟩
  · have e : v = .slice none 0 0 := by
      subst he
      simpa [Value.cells] using hcs
    rw [he] at e
    injection e with _ e _
    rw [e]; simp
  · have e : v = .slice (some a) len cap := by
      subst he
      simpa [Value.cells] using hcs
    rw [he] at e
    injection e with _ e _
    have hd : d = .slice ((List.range len).map D) ((List.range (m - len)).map fun j => D (len + j)) := by
      have := congrArg Prod.fst hx; exact this
    have hml : len ≤ m := by rw [hmm]; simpa using hle
    have := hw (((List.range len).map D).length * 40 + ((List.range (m - len)).map fun j => D (len + j)).length * 40) (by
      rw [hd]
      simp only [DataW.weights, Try.underlying22, List.mem_cons, List.mem_append, bytesVD]
      exact .inl (by rw [Nat.add_mul]))
    simp only [List.length_map, List.length_range] at this
    omega
end

/-- The cells of a row of declarations. -/
def CellsD (w : World) (B : Nat) (xs : List Value) (l : VL) : Prop := xs.length = l.length * 2 ∧ ∀ i (h : i < l.length), ∃ u, xs[i * 2]? = some (.string (bs l[i].nm)) ∧ xs[i * 2 + 1]? = some u ∧ StrRow w B u l[i].ps
theorem CellsD.nil (w : World) (B : Nat) : CellsD w B [] [] := ⟨rfl, fun i h => by simp at h⟩
theorem CellsD.below {w w' : World} {B : Nat} {xs : List Value} {l : VL} (h : CellsD w B xs l) (hb : Below B w w') : CellsD w' B xs l :=
  ⟨h.1, fun i hi => by obtain ⟨u, h1, h2, h3⟩ := h.2 i hi; exact ⟨u, h1, h2, h3.below hb⟩⟩
theorem CellsD.app {w : World} {B : Nat} {xs ys : List Value} {l m : VL} (h : CellsD w B xs l) (k : CellsD w B ys m) : CellsD w B (xs ++ ys) (l ++ m) := by
  have hx := h.1
  have hy := k.1
  refine ⟨by rw [List.length_append, List.length_append, hx, hy]; omega, fun i hi => ?_⟩
  by_cases hil : i < l.length
  · obtain ⟨u, h1, h2, h3⟩ := h.2 i hil
    refine ⟨u, ?_, ?_, ?_⟩
    · rw [List.getElem?_append_left (by omega), List.getElem_append_left hil]; exact h1
    · rw [List.getElem?_append_left (by omega)]; exact h2
    · rw [List.getElem_append_left hil]; exact h3
  · rw [List.length_append] at hi
    obtain ⟨u, h1, h2, h3⟩ := k.2 (i - l.length) (by omega)
    have e1 : i * 2 - xs.length = (i - l.length) * 2 := by omega
    have e2 : i * 2 + 1 - xs.length = (i - l.length) * 2 + 1 := by omega
    refine ⟨u, ?_, ?_, ?_⟩
    · rw [List.getElem?_append_right (by omega), e1, List.getElem_append_right (by omega)]; exact h1
    · rw [List.getElem?_append_right (by omega), e2]; exact h2
    · rw [List.getElem_append_right (by omega)]; exact h3
theorem CellsD.one {w : World} {B : Nat} {xs : List Value} {l : VL} (h : CellsD w B xs l) : ∀ u ∈ xs, u.oneCell' = true := by
  intro u hu
  obtain ⟨j, hj, rfl⟩ := List.getElem_of_mem hu
  have hx := h.1
  obtain ⟨v, h1, h2, A, cap, hv, _⟩ := h.2 (j / 2) (by omega)
  have hc : j = j / 2 * 2 ∨ j = j / 2 * 2 + 1 := by omega
  have hg : xs[j]? = some xs[j] := List.getElem?_eq_getElem hj
  rcases hc with hc | hc
  · rw [← hc] at h1
    have e := Option.some.inj (hg.symm.trans h1)
    rw [e]; rfl
  · rw [← hc] at h2
    have e := Option.some.inj (hg.symm.trans h2)
    rw [e, hv]; rfl
/-- v owns the declarations l, whose parents lie below block B. -/
structure OwnD (w : World) (base B : Nat) (v : Value) (l : VL) : Prop where
  ex : ∃ xs, w.ownsRow base 25 2 v l.length xs ∧ CellsD w B xs l
theorem OwnD.vrow {w : World} {base B : Nat} {v : Value} {l : VL} (h : OwnD w base B v l) (hB : B ≤ w.heap.size) : VRow w w.heap.size v l := by
  obtain ⟨xs, ho, hx, hc⟩ := h
  rcases ho.2 with ⟨rfl, h2⟩ | ⟨g, cap, cur, rfl, h2, h3, h4, h5, h6, h7⟩
  · rw [List.eq_nil_of_length_eq_zero h2]; exact vrow_nil _ _
  · refine ⟨_, cap, rfl, h4, h5, (fun h => by cases h), fun _ => ⟨g, 0, rfl, (Array.getElem?_eq_some_iff.1 h3).1, fun i hi => ?_⟩⟩
    obtain ⟨u, e1, e2, e3⟩ := hc i hi
    have at' : ∀ j, j < l.length * 2 → w.cell? ⟨g, j, none⟩ = xs[j]? := fun j hj => by
      rw [cell_of_row _ _ _ _ _ _ h3, ← Array.getElem?_toList, ← h7, List.getElem?_take, if_pos hj]
    refine ⟨u, ?_, ?_, e3.mono hB⟩
    · rw [Nat.zero_add, at' _ (by omega)]; exact e1
    · rw [Nat.zero_add, at' _ (by omega)]; exact e2
/-- A slice value that reads as the declarations q wherever it lies; the parents lie below block B. -/
structure SrcD (w : World) (B : Nat) (u : Value) (q : VL) : Prop where
  ex : ∃ A cap, u = .slice A q.length cap ∧ (A = none → cap = 0 ∧ q.length = 0) ∧ ∃ xs, CellsD w B xs q ∧ ∀ ad, A = some ad → ∀ j x, xs[j]? = some x → w.cell? (ad.add j) = some x
theorem SrcD.of {w : World} {B : Nat} {u : Value} {q : VL} (h : VRow w B u q) : SrcD w B u q := by
  obtain ⟨A, cap, rfl, h1, h2, h3, h4⟩ := h
  refine ⟨A, cap, rfl, fun h => ⟨h3 h, by have := h3 h; omega⟩, ?_⟩
  by_cases h0 : 0 < q.length
  · obtain ⟨b, off, rfl, hb, hc⟩ := h4 h0
    have hcell : ∀ j, j < q.length * 2 → ∃ y, w.cell? ⟨b, off + j, none⟩ = some y := fun j hj => by
      obtain ⟨u, c1, c2, _⟩ := hc (j / 2) (by omega)
      have : j = j / 2 * 2 ∨ j = j / 2 * 2 + 1 := by omega
      rcases this with e | e
      · exact ⟨_, by rw [e]; exact c1⟩
      · exact ⟨_, by rw [e, ← Nat.add_assoc]; exact c2⟩
    have hget : ∀ j, j < q.length * 2 → ((List.range (q.length * 2)).map fun j => (w.cell? ⟨b, off + j, none⟩).getD undef)[j]? = w.cell? ⟨b, off + j, none⟩ := fun j hj => by
      obtain ⟨y, hy⟩ := hcell j hj
      rw [List.getElem?_map, List.getElem?_range hj, hy]
      simp [hy]
    refine ⟨(List.range (q.length * 2)).map fun j => (w.cell? ⟨b, off + j, none⟩).getD undef, ⟨by simp, fun i hi => ?_⟩, fun ad ha j x hx => ?_⟩
    · obtain ⟨u, c1, c2, c3⟩ := hc i hi
      refine ⟨u, ?_, ?_, c3⟩
      · rw [hget _ (by omega)]; exact c1
      · rw [hget _ (by omega), ← Nat.add_assoc]; exact c2
    · injection ha with ha
      subst ha
      have hj : j < q.length * 2 := by
        have := (List.getElem?_eq_some_iff.1 hx).1
        simpa using this
      rw [hget j hj] at hx
      rw [Go.WideShapes.add_plain]; exact hx
  · obtain rfl : q = [] := List.eq_nil_of_length_eq_zero (by omega)
    exact ⟨[], CellsD.nil _ _, fun ad _ j x hx => by simp at hx⟩
theorem SrcD.lit {w : World} {B b : Nat} {d : Vd} {u : Value} (c0 : w.cell? ⟨b, 0, none⟩ = some (.string (bs d.nm))) (c1 : w.cell? ⟨b, 1, none⟩ = some u) (hu : StrRow w B u d.ps) : SrcD w B (.slice (some ⟨b, 0, none⟩) 1 1) [d] := by
  refine ⟨_, 1, rfl, (fun h => by cases h), [.string (bs d.nm), u], ⟨rfl, fun i hi => ?_⟩, fun ad ha j x hx => ?_⟩
  · obtain rfl : i = 0 := by simpa using hi
    exact ⟨u, rfl, rfl, hu⟩
  · injection ha with ha
    subst ha
    rw [Go.WideShapes.add_plain, Nat.zero_add]
    match j, hx with
    | 0, hx => simp at hx; subst hx; exact c0
    | 1, hx => simp at hx; subst hx; exact c1
set_option maxRecDepth 100000 in
theorem run_appD (w : World) (ty : TypeId) (base B : Nat) (v u : Value) (L q : VL) (hv : OwnD w base B v L) (hu : SrcD w B u q) (hl : (L.length + q.length) * 40 ≤ 140737488355328) (hb : base ≤ w.heap.size) (hB : B ≤ base) :
    ∃ v' w', (Builtin.append_ #[22, 22] ty #[v, u]).run Try.prog w = .ok v' w' ∧ OwnD w' base B v' (L ++ q) ∧ w.grownBy w' v.ownBlock ∧ Below base w w' := by
  obtain ⟨i0, hi, hz0, hz1, hz2⟩ := info_parts infoVD
  obtain ⟨ys, ho, hy⟩ := hv
  obtain ⟨A, cap, rfl, hA, xs, hx, hcells⟩ := hu
  rcases A with _ | ad
  · obtain ⟨hc, h0⟩ := hA rfl
    obtain rfl : q = [] := List.eq_nil_of_length_eq_zero h0
    subst hc
    have hu := run_underlying (P := Try.prog) Try.underlying22
    have hvs : ∃ A n cap, v = .slice A n cap ∧ n ≤ cap := by
      rcases ho.2 with ⟨rfl, _⟩ | ⟨g, cap, cur, rfl, _, _, h1, _⟩
      · exact ⟨none, 0, 0, rfl, Nat.le_refl _⟩
      · exact ⟨_, _, _, rfl, h1⟩
    obtain ⟨A, n, cp, rfl, hnc⟩ := hvs
    refine ⟨.slice A n cp, w, ?_, by rw [List.append_nil]; exact ⟨ys, ho, hy⟩, grown_refl _ _, Below.refl _ _⟩
    cases A <;> simp [Builtin.append_, hu, Builtin.lenOf, Builtin.firstCells, sizeOf, typeInfo, hi, storeCells, hnc]
  · obtain ⟨v', w', hr, h2, h3, _, _⟩ := run_append_own_at (P := Try.prog) w base 22 ty 25 i0 (.agg #[.string (bs []), .slice none 0 0]) 2 40 Try.underlying22 hi hz0 hz1 hz2 rfl (by decide) v L.length ys ho ad q.length cap xs hx.1 (hcells ad rfl) hx.one (by unfold maxLen; omega) hl hb
    have hbel : Below base w w' := (Below.refl _ _).grown h3 hb (fun k hk => (World.ownsRow.lt ho k hk).1)
    refine ⟨v', w', hr, ⟨ys ++ xs, ?_, (hy.app hx).below (hbel.mono hB)⟩, h3, hbel⟩
    rw [List.length_append]; exact h2
theorem step_appD {ops : Array Oper} {o : Oper} {a : Act} {w : World} {K : Act → World → Prop} {Q : Exit → Act → World → Prop} {E : Prop} (hgd : o.guard = none) (d s : Operand)
    (ho : o.op = .call { callee := .builtin .append, args := #[d, s], argTypes := #[22, 22] }) (base B : Nat) (v u : Value) (L q : VL) (hd : a.eval d = v) (hs : a.eval s = u)
    (hv : OwnD w base B v L) (hu : SrcD w B u q) (hl : (L.length + q.length) * 40 ≤ 140737488355328) (hb : base ≤ w.heap.size) (hB : B ≤ base)
    (h : ∀ v' w', Hid (OwnD w' base B v' (L ++ q)) → Hid (w.grownBy w' v.ownBlock) → Hid (Below base w w') → K (a.put o.dst v') w') :
    if Region.wanted o (yielded ops a.tmps) = true then Oper.wp Try.prog o a w K Q else E := by
  have hw' : Region.wanted o (yielded ops a.tmps) = true := by simp [Region.wanted, hgd]
  rw [if_pos hw']
  obtain ⟨v', w', hr, h2, h3, h4⟩ := run_appD w o.type base B v u L q hv hu hl hb hB
  unfold Oper.wp execOp
  simp only [ho, resolve, invoke, builtin, Sem.run_bind, Sem.run_pure, Result.andThen_ok, List.map_toArray, List.map_cons, List.map_nil, hd, hs, hr]
  exact h v' w' h2 h3 h4
/-- The empty row, and one declaration laid beside it. -/
theorem ownD_empty (w : World) (base B : Nat) (hb : base ≤ w.heap.size) : OwnD (w.alloc (.cells #[] 25)) base B (.slice (some ⟨w.heap.size, 0, none⟩) 0 0) [] :=
  ⟨[], World.ownsRow_made w #[] 0 hb (by decide) rfl, CellsD.nil _ _⟩
theorem OwnD.alloc {w : World} {base B : Nat} {v : Value} {l : VL} (h : OwnD w base B v l) (hB : B ≤ w.heap.size) (o : Obj) : OwnD (w.alloc o) base B v l := by
  obtain ⟨xs, ho, hx⟩ := h
  exact ⟨xs, ho.alloc o, hx.below ((Below.refl _ _).alloc hB o)⟩
theorem OwnD.drew {w : World} {base B : Nat} {v : Value} {l : VL} (h : OwnD w base B v l) : OwnD w.drew base B v l := by
  obtain ⟨xs, ho, hx⟩ := h
  exact ⟨xs, ho, hx.below (Below.refl _ _).drew⟩
theorem below_newD (w : World) (o : Obj) : Below w.heap.size w (w.alloc o) := (Below.refl _ _).alloc (Nat.le_refl _) _
theorem below_two (w : World) (o p : Obj) : Below w.heap.size w ((w.alloc o).alloc p).drew := (((Below.refl _ _).alloc (Nat.le_refl _) _).alloc (by simp) _).drew
/-- The one laid second, or first, behind what grew beside it. -/
theorem src_snd {W w2 : World} {d : Vd} {u : Value} {t t2 : TypeId} (hu : StrRow W W.heap.size u d.ps)
    (hg : ((W.alloc (.cells #[] t)).alloc (.cells #[.string (bs d.nm), u] t2)).drew.grownBy w2 (Value.slice (some ⟨W.heap.size, 0, none⟩) 0 0).ownBlock) (hk : Below W.heap.size W w2) : SrcD w2 W.heap.size (.slice (some ⟨W.heap.size + 1, 0, none⟩) 1 1) [d] := by
  have hs : ((W.alloc (.cells #[] t)).alloc (.cells #[.string (bs d.nm), u] t2)).drew.heap[W.heap.size + 1]? = some (.cells #[.string (bs d.nm), u] t2) := by
    show ((W.heap.push _).push _)[W.heap.size + 1]? = _
    rw [show W.heap.size + 1 = (W.heap.push (.cells #[] t)).size by simp, Array.getElem?_push_size]
  have hne : some (W.heap.size + 1) ≠ (Value.slice (some ⟨W.heap.size, 0, none⟩) 0 0).ownBlock := by
    intro e
    simp [Value.ownBlock] at e
  exact SrcD.lit (hg.cell (blkV hs 0) hne) (hg.cell (blkV hs 1) hne) (hu.below hk)
theorem src_fst {W w2 : World} {d : Vd} {u : Value} {t t2 : TypeId} (hu : StrRow W W.heap.size u d.ps)
    (hg : ((W.alloc (.cells #[.string (bs d.nm), u] t2)).alloc (.cells #[] t)).drew.grownBy w2 (Value.slice (some ⟨W.heap.size + 1, 0, none⟩) 0 0).ownBlock) (hk : Below W.heap.size W w2) : SrcD w2 W.heap.size (.slice (some ⟨W.heap.size, 0, none⟩) 1 1) [d] := by
  have hs : ((W.alloc (.cells #[.string (bs d.nm), u] t2)).alloc (.cells #[] t)).drew.heap[W.heap.size]? = some (.cells #[.string (bs d.nm), u] t2) := by
    show ((W.heap.push _).push _)[W.heap.size]? = _
    rw [Array.getElem?_push_lt (by simp)]; simp
  have hne : some W.heap.size ≠ (Value.slice (some ⟨W.heap.size + 1, 0, none⟩) 0 0).ownBlock := by
    intro e
    simp [Value.ownBlock] at e
  exact SrcD.lit (hg.cell (blkV hs 0) hne) (hg.cell (blkV hs 1) hne) (hu.below hk)
theorem src_new {W w2 : World} {d : Vd} {u : Value} {t2 : TypeId} (hu : StrRow W W.heap.size u d.ps) (hk : Below W.heap.size W w2) : SrcD (w2.alloc (.cells #[.string (bs d.nm), u] t2)) W.heap.size (.slice (some ⟨w2.heap.size, 0, none⟩) 1 1) [d] := by
  have hs : (w2.alloc (.cells #[.string (bs d.nm), u] t2)).heap[w2.heap.size]? = some (.cells #[.string (bs d.nm), u] t2) := by
    show (w2.heap.push _)[w2.heap.size]? = _
    rw [Array.getElem?_push_size]
  exact SrcD.lit (blkV hs 0) (blkV hs 1) (hu.below (hk.alloc hk.size _))
end Go.Proofs.Ytmnhnighlgpjmaa
