/-
  Tables of rows of numbers: what a store into one keeps.
-/
import Derived.Test.YtcljgpgdbjpemaaLawZ
import Derived.Test.YtcljgpgdbjpemaaDiv
namespace Go.Proofs.Ytcljgpgdbjpemaa
set_option linter.unusedVariables false
set_option linter.unusedSimpArgs false
open Go.RowKit

structure Tbl (w : World) (g N : Nat) (vs : List Value) (L : List (List Nat)) : Prop where
  vl : vs.length = N
  ll : L.length = N
  blk : w.heap[g]? = some (.cells vs.toArray 23 (0, 0))
  row : ∀ i, i < N → ∃ v, vs[i]? = some v ∧ IRow w w.heap.size v (zi (L.getD i [])) ∧ ((L.getD i [] = [] ∧ v = .slice none 0 0) ∨ (L.getD i [] ≠ [] ∧ ∃ (b off n c : Nat), v = .slice (some ⟨b, off, none⟩) n c))
theorem Tbl.lt {w : World} {g N : Nat} {vs : List Value} {L : List (List Nat)} (T : Tbl w g N vs L) : g < w.heap.size := (Array.getElem?_eq_some_iff.1 T.blk).1
theorem Tbl.cell {w : World} {g N : Nat} {vs : List Value} {L : List (List Nat)} (T : Tbl w g N vs L) (i : Nat) : w.cell? ⟨g, i, none⟩ = vs[i]? := by
  rw [cell_of_row _ _ _ _ _ _ T.blk]; simp
theorem Tbl.free {w : World} {g N : Nat} {vs : List Value} {L : List (List Nat)} (T : Tbl w g N vs L) (i : Nat) : w.frozen? ⟨g, i, none⟩ = false := by
  simp [World.frozen?, T.blk]
theorem Tbl.slice {w : World} {g N i : Nat} {vs : List Value} {L : List (List Nat)} (T : Tbl w g N vs L) {v : Value} (h : vs[i]? = some v) : ∃ A n c, v = .slice A n c := by
  have hi := (List.getElem?_eq_some_iff.1 h).1
  obtain ⟨v2, h1, _, h3⟩ := T.row i (by rw [← T.vl]; exact hi)
  rw [h] at h1; injection h1 with h1; subst h1
  rcases h3 with ⟨_, rfl⟩ | ⟨_, b, off, n, c, rfl⟩
  · exact ⟨_, _, _, rfl⟩
  · exact ⟨_, _, _, rfl⟩
theorem irow_tbl {w : World} {g N i : Nat} {vs : List Value} {L : List (List Nat)} (T : Tbl w g N vs L) {v : Value} {l : List Int} (h : IRow w w.heap.size v l) (x : Value) : IRow (w.setCell ⟨g, i, none⟩ x) w.heap.size v l := by
  obtain ⟨hl, A, cap, hv, h1, h2, h3, hA⟩ := h
  refine ⟨hl, A, cap, hv, h1, h2, h3, fun h0 => ?_⟩
  obtain ⟨b, off, ha, hB, hc⟩ := hA h0
  have hbg : b ≠ g := fun e => by
    subst e
    have h4 := hc 0 h0
    rw [T.cell] at h4
    obtain ⟨_, _, _, h5⟩ := T.slice h4
    cases h5
  refine ⟨b, off, ha, hB, fun k hk => ?_⟩
  rw [(grown_set w g i x).cell_far ⟨b, off + k, none⟩ hB (fun e => hbg (by injection e))]
  exact hc k hk
theorem set_size (w : World) (g i : Nat) (x : Value) : (w.setCell ⟨g, i, none⟩ x).heap.size = w.heap.size := by simp [World.setCell]
theorem Tbl.put {w : World} {g N i : Nat} {vs : List Value} {L : List (List Nat)} (T : Tbl w g N vs L) {v' : Value} {l' : List Nat} (hi : i < N) (hr : IRow w w.heap.size v' (zi l')) (hn : l' ≠ []) : Tbl (w.setCell ⟨g, i, none⟩ v') g N (vs.set i v') (L.set i l') := by
  refine ⟨by rw [List.length_set]; exact T.vl, by rw [List.length_set]; exact T.ll, ?_, fun j hj => ?_⟩
  · rw [setCell_eq_setRow w g i vs.toArray _ (0, 0) v' T.blk, setRow_heap w g vs.toArray _ _ (0, 0) T.blk]
    congr 2
    apply Array.ext'
    simp
  · rw [set_size, getL (by rw [T.ll]; exact hi)]
    by_cases e : j = i
    · subst e
      rw [if_pos rfl]
      refine ⟨v', by rw [List.getElem?_set_self (by rw [T.vl]; exact hi)], irow_tbl T hr v', .inr ⟨hn, ?_⟩⟩
      obtain ⟨hl, A, cap, hv, h1, h2, h3, hA⟩ := hr
      obtain ⟨b, off, ha, _, _⟩ := hA (by rw [zi_length]; exact List.length_pos_iff.2 hn)
      exact ⟨b, off, _, cap, by rw [hv, ha]⟩
    · rw [if_neg e]
      obtain ⟨v, h1, h2, h3⟩ := T.row j hj
      exact ⟨v, by rw [List.getElem?_set_ne (fun e2 => e e2.symm)]; exact h1, irow_tbl T h2 v', h3⟩
theorem Tbl.other {w : World} {g1 g2 N i : Nat} {vs1 vs2 : List Value} {L1 L2 : List (List Nat)} (T1 : Tbl w g1 N vs1 L1) (T2 : Tbl w g2 N vs2 L2) (hg : g1 ≠ g2) (x : Value) : Tbl (w.setCell ⟨g1, i, none⟩ x) g2 N vs2 L2 :=
  ⟨T2.vl, T2.ll, ((grown_set w g1 i x).block g2 T2.lt (fun e => hg (by injection e with e; exact e.symm))).trans T2.blk, fun j hj => by
    obtain ⟨v, h1, h2, h3⟩ := T2.row j hj
    exact ⟨v, h1, by rw [set_size]; exact irow_tbl T1 h2 x, h3⟩⟩
theorem Tbl.below {w w' : World} {g N : Nat} {vs : List Value} {L : List (List Nat)} (T : Tbl w g N vs L) (hb : Below w.heap.size w w') : Tbl w' g N vs L :=
  ⟨T.vl, T.ll, (hb.block g T.lt).trans T.blk, fun j hj => by
    obtain ⟨v, h1, h2, h3⟩ := T.row j hj
    exact ⟨v, h1, h2.keep hb, h3⟩⟩
theorem Tbl.start (w : World) (N g : Nat) (hb : w.heap[g]? = some (.cells (List.replicate N (Value.slice none 0 0)).toArray 23 (0, 0))) : Tbl w g N (List.replicate N (.slice none 0 0)) (List.replicate N []) :=
  ⟨by simp, by simp, hb, fun i hi => ⟨.slice none 0 0, by rw [List.getElem?_replicate, if_pos hi], by rw [List.getD_eq_getElem?_getD, List.getElem?_replicate, if_pos hi]; exact irow_nil _ _, .inl ⟨by rw [List.getD_eq_getElem?_getD, List.getElem?_replicate, if_pos hi]; rfl, rfl⟩⟩⟩
theorem Tbl.lrow {w : World} {g N : Nat} {vs : List Value} {L : List (List Nat)} (T : Tbl w g N vs L) (hN : N ≤ 1000) : LRow w w.heap.size (.slice (some ⟨g, 0, none⟩) N N) (L.map zi) := by
  have hl : (L.map zi).length = N := by rw [List.length_map]; exact T.ll
  refine ⟨⟨by omega, fun l hm => ?_⟩, some ⟨g, 0, none⟩, N, by rw [hl], fun _ => ⟨g, 0, rfl, T.lt, fun i hi => ?_⟩⟩
  · obtain ⟨i, hi, rfl⟩ := List.getElem_of_mem hm
    rw [hl] at hi
    obtain ⟨v, _, h2, _⟩ := T.row i hi
    have e : (L.map zi)[i]'(by rw [hl]; exact hi) = zi (L.getD i []) := by
      rw [List.getElem_map, List.getD_eq_getElem?_getD, List.getElem?_eq_getElem (by rw [T.ll]; exact hi)]; rfl
    rw [e]; exact h2.1
  · rw [hl] at hi
    obtain ⟨v, h1, h2, _⟩ := T.row i hi
    have e : (L.map zi)[i]'(by rw [hl]; exact hi) = zi (L.getD i []) := by
      rw [List.getElem_map, List.getD_eq_getElem?_getD, List.getElem?_eq_getElem (by rw [T.ll]; exact hi)]; rfl
    rw [e]
    exact ⟨v, by rw [Nat.zero_add, T.cell, h1], h2⟩
end Go.Proofs.Ytcljgpgdbjpemaa
