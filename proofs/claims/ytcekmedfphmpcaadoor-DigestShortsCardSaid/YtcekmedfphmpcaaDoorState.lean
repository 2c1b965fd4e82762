/-
  A block that holds a row of numbers (the lanes of a state): what is read, what a store leaves, what stays.
-/
import Derived.Test.YtcekmedfphmpcaaDoorRound
namespace Go.Proofs.YtcekmedfphmpcaaDoor
set_option linter.unusedVariables false
set_option linter.unusedSimpArgs false
open Go.RowKit

def St (w : World) (g : Nat) (A : List Nat) : Prop := ∃ t, w.heap[g]? = some (.cells (uv A).toArray t (0, 0))
theorem St.lt {w : World} {g : Nat} {A : List Nat} (h : St w g A) : g < w.heap.size := by obtain ⟨t, h⟩ := h; exact (Array.getElem?_eq_some_iff.1 h).1
theorem St.cell {w : World} {g : Nat} {A : List Nat} (h : St w g A) (i : Nat) (hi : i < A.length) : w.cell? ⟨g, i, none⟩ = some (.int .u64 (lat A i : Nat)) := by
  obtain ⟨t, h⟩ := h
  rw [cell_of_row w g i _ t _ h, List.getElem?_toArray]
  exact uv_at A i hi
theorem St.free {w : World} {g : Nat} {A : List Nat} (h : St w g A) (i : Nat) : w.frozen? ⟨g, i, none⟩ = false := by
  obtain ⟨t, h⟩ := h
  exact frozen_of_row w g i _ t h
theorem St.store {w : World} {g : Nat} {A : List Nat} (h : St w g A) (i v : Nat) : St (w.setCell ⟨g, i, none⟩ (.int .u64 (v : Nat))) g (A.set i v) := by
  obtain ⟨t, h⟩ := h
  refine ⟨t, ?_⟩
  rw [heap_setCell_same w g i _ t _ h]
  congr 2
  apply Array.ext'
  simp [uv, List.map_set]
theorem St.grown {w w' : World} {g : Nat} {A : List Nat} {row : Option Nat} (h : St w g A) (hg : w.grownBy w' row) (hne : some g ≠ row) : St w' g A := by
  have hl := h.lt
  obtain ⟨t, h⟩ := h
  exact ⟨t, (hg.block g hl hne).trans h⟩
theorem St.below {w w' : World} {g B : Nat} {A : List Nat} (h : St w g A) (hb : Below B w w') (hg : g < B) : St w' g A := by
  obtain ⟨t, h⟩ := h
  exact ⟨t, (hb.block g hg).trans h⟩
theorem St.alloc {w : World} {g : Nat} {A : List Nat} (h : St w g A) (o : Obj) : St (w.alloc o) g A := by
  have hl := h.lt
  obtain ⟨t, h⟩ := h
  exact ⟨t, (heap_alloc_old w o hl).trans h⟩
theorem St.other {w : World} {g : Nat} {A : List Nat} (h : St w g A) (p i : Nat) (v : Value) (hne : g ≠ p) : St (w.setCell ⟨p, i, none⟩ v) g A := by
  obtain ⟨t, h⟩ := h
  exact ⟨t, (Below.heap_setCell w ⟨p, i, none⟩ v g hne).trans h⟩
theorem St.drew {w : World} {g : Nat} {A : List Nat} (h : St w g A) : St w.drew g A := h
theorem St.of_drew {w : World} {g : Nat} {A : List Nat} (h : St w.drew g A) : St w g A := h

/-- Lists that are filled from the front. -/
def fillK (f z : Nat → Nat) (n k : Nat) : List Nat := (List.range n).map fun j => if j < k then f j else z j
theorem fillK_length (f z : Nat → Nat) (n k : Nat) : (fillK f z n k).length = n := by simp [fillK]
theorem fillK_lat (f z : Nat → Nat) (n k j : Nat) (hj : j < n) : lat (fillK f z n k) j = if j < k then f j else z j := lat_map _ _ _ hj
theorem fillK_succ (f z : Nat → Nat) (n k : Nat) (hk : k < n) : fillK f z n (k + 1) = (fillK f z n k).set k (f k) := by
  apply List.ext_getElem
  · simp [fillK]
  · intro j h1 h2
    rw [List.getElem_set]
    simp only [fillK, List.getElem_map, List.getElem_range]
    by_cases e : k = j
    · subst e; rw [if_pos rfl, if_pos (by omega)]
    · rw [if_neg e]
      by_cases hlt : j < k
      · rw [if_pos (by omega), if_pos hlt]
      · rw [if_neg (by omega), if_neg hlt]
theorem fillK_full (f z : Nat → Nat) (n : Nat) : fillK f z n n = (List.range n).map f := by
  unfold fillK
  apply List.map_congr_left
  intro j hj
  rw [if_pos (by simpa using hj)]
theorem list_lat (A : List Nat) : A = (List.range A.length).map (lat A) := by
  apply List.ext_getElem
  · simp
  · intro j h1 h2
    simp [lat, List.getD_eq_getElem?_getD, h1]
theorem fillK_zero (A : List Nat) (f : Nat → Nat) : fillK f (lat A) A.length 0 = A := by
  unfold fillK
  simp only [Nat.not_lt_zero, if_false]
  exact (list_lat A).symm
theorem gr_drew {w w' : World} {row : Option Nat} (h : w.grownBy w' row) : w.grownBy w'.drew row := ⟨h.os, h.tape, h.output, h.size, h.block⟩
theorem gr_set {w w' : World} {g : Nat} (h : w.grownBy w' (some g)) (i : Nat) (v : Value) : w.grownBy (w'.setCell ⟨g, i, none⟩ v) (some g) := h.trans (grown_set w' g i v)

/-- The state while the first step is under way: columns below x are done, and y lanes of column x. -/
def thK (a P : List Nat) (x y : Nat) : List Nat := (List.range 25).map fun i => if i % 5 < x ∨ (i % 5 = x ∧ i / 5 < y) then theta a P i else lat a i
theorem thK_length (a P : List Nat) (x y : Nat) : (thK a P x y).length = 25 := by simp [thK]
theorem thK_zero (a P : List Nat) (h : a.length = 25) : thK a P 0 0 = a := by
  conv => rhs; rw [list_lat a, h]
  unfold thK
  apply List.map_congr_left
  intro i _
  rw [if_neg (by omega)]
theorem thK_turn (a P : List Nat) (x : Nat) : thK a P x 5 = thK a P (x + 1) 0 := by
  unfold thK
  apply List.map_congr_left
  intro i hi
  have hi : i < 25 := by simpa using hi
  by_cases h : i % 5 < x ∨ (i % 5 = x ∧ i / 5 < 5)
  · rw [if_pos h, if_pos (by omega)]
  · rw [if_neg h, if_neg (by omega)]
theorem thK_full (a P : List Nat) : thK a P 5 0 = (List.range 25).map (theta a P) := by
  unfold thK
  apply List.map_congr_left
  intro i hi
  rw [if_pos (by omega)]
theorem thK_lat (a P : List Nat) (x y : Nat) (hx : x < 5) (hy : y < 5) : lat (thK a P x y) (x + 5 * y) = lat a (x + 5 * y) := by
  unfold thK
  rw [lat_map _ _ _ (by omega), if_neg (by omega)]
theorem thK_step (a P : List Nat) (x y : Nat) (hx : x < 5) (hy : y < 5) : thK a P x (y + 1) = (thK a P x y).set (x + 5 * y) (theta a P (x + 5 * y)) := by
  apply List.ext_getElem
  · simp [thK]
  · intro j h1 h2
    have hj : j < 25 := by simpa [thK] using h1
    rw [List.getElem_set]
    simp only [thK, List.getElem_map, List.getElem_range]
    by_cases e : x + 5 * y = j
    · subst e; rw [if_pos rfl, if_pos (by omega)]
    · rw [if_neg e]
      by_cases h : j % 5 < x ∨ (j % 5 = x ∧ j / 5 < y)
      · rw [if_pos (by omega), if_pos h]
      · rw [if_neg (by omega), if_neg h]
end Go.Proofs.YtcekmedfphmpcaaDoor
