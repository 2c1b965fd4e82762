/-
  What divide counts and collects.
-/
import Derived.Test.YtobpolmlblpmjaaDivM
namespace Go.Proofs.Ytobpolmlblpmjaa
set_option linter.unusedVariables false
set_option linter.unusedSimpArgs false

def openL (H : List Nat) (n : Nat) (L : List (Nat × Nat)) : List Nat := (List.range n).map fun x => L.countP fun a => H.getD a.1 0 == x && H.getD a.2 0 != x
theorem openL_length (H : List Nat) (n : Nat) (L : List (Nat × Nat)) : (openL H n L).length = n := by simp [openL]
theorem openL_get (H : List Nat) (n : Nat) (L : List (Nat × Nat)) (x : Nat) (hx : x < n) : (openL H n L).getD x 0 = L.countP fun a => H.getD a.1 0 == x && H.getD a.2 0 != x := by
  unfold openL
  rw [List.getD_eq_getElem?_getD, List.getElem?_map, List.getElem?_range hx]; rfl
theorem openL_nil (H : List Nat) (n : Nat) : openL H n [] = List.replicate n 0 := by
  apply List.ext_getElem
  · simp [openL]
  · intro i h1 h2; simp [openL]
theorem getD_ext {l m : List Nat} (hl : l.length = m.length) (h : ∀ x, x < l.length → l.getD x 0 = m.getD x 0) : l = m := by
  apply List.ext_getElem hl
  intro i h1 h2
  have := h i h1
  rw [List.getD_eq_getElem?_getD, List.getElem?_eq_getElem h1, List.getD_eq_getElem?_getD, List.getElem?_eq_getElem h2] at this
  exact this
theorem openL_in {H : List Nat} {n : Nat} {L : List (Nat × Nat)} {v w : Nat} (h : H.getD w 0 = H.getD v 0) : openL H n (L ++ [(v, w)]) = openL H n L := by
  apply getD_ext (by rw [openL_length, openL_length])
  intro x hx
  rw [openL_length] at hx
  rw [openL_get _ _ _ _ hx, openL_get _ _ _ _ hx, List.countP_append, List.countP_singleton]
  simp only [h]
  by_cases e : H.getD v 0 = x
  · rw [e]; simp
  · simp [e]
theorem openL_out {H : List Nat} {n : Nat} {L : List (Nat × Nat)} {v w : Nat} (h : H.getD w 0 ≠ H.getD v 0) (hv : H.getD v 0 < n) : openL H n (L ++ [(v, w)]) = (openL H n L).set (H.getD v 0) ((openL H n L).getD (H.getD v 0) 0 + 1) := by
  apply getD_ext (by rw [openL_length, List.length_set, openL_length])
  intro x hx
  rw [openL_length] at hx
  rw [openL_get _ _ _ _ hx, List.countP_append, List.countP_singleton]
  by_cases e : H.getD v 0 = x
  · subst e
    rw [getD_set_self _ _ _ _ (by rw [openL_length]; exact hx), openL_get _ _ _ _ hx]
    have h2 : (H.getD w 0 != H.getD v 0) = true := by simp only [bne_iff_ne]; exact h
    simp only [h2, beq_self_eq_true, Bool.and_self, if_true]
  · rw [getD_set_ne _ _ _ _ _ e, openL_get _ _ _ _ hx]
    have h2 : (H.getD v 0 == x) = false := by simp only [beq_eq_false_iff_ne]; exact e
    simp only [h2, Bool.false_and, Bool.false_eq_true, if_false, Nat.add_zero]
theorem openL_le (H : List Nat) (n : Nat) (L : List (Nat × Nat)) (x : Nat) : (openL H n L).getD x 0 ≤ L.length := by
  by_cases hx : x < n
  · rw [openL_get _ _ _ _ hx]; exact List.countP_le_length
  · rw [List.getD_eq_getElem?_getD, List.getElem?_eq_none (by rw [openL_length]; omega)]; simp
theorem addA_get (n : Nat) (l : List (Nat × Nat)) (x : Nat) (hx : x < n) : (addA n l).getD x [] = (l.filter (fun a => a.1 == x)).map (·.2) := by
  induction l using snoc_ind with
  | h0 => simp [addA, List.getElem?_replicate, hx]
  | h1 l a ih =>
    rw [addA_snoc, List.filter_append, List.map_append, ← ih]
    by_cases e : a.1 = x
    · have h2 : (a.1 == x) = true := by simp [e]
      rw [e]
      rw [List.getD_eq_getElem?_getD, List.getElem?_set_self (by rw [addA_length]; exact hx)]
      simp [h2, List.filter_cons]
    · have h2 : (a.1 == x) = false := by simp [e]
      rw [List.getD_eq_getElem?_getD, List.getElem?_set_ne e, ← List.getD_eq_getElem?_getD]
      simp [h2, List.filter_cons]
/-- The nodes by their heads. -/
def byHead (H : List Nat) (k : Nat) : List (Nat × Nat) := (List.range k).map fun v => (H.getD v 0, v)
theorem byHead_zero (H : List Nat) : byHead H 0 = [] := rfl
theorem byHead_succ (H : List Nat) (k : Nat) : byHead H (k + 1) = byHead H k ++ [(H.getD k 0, k)] := by simp [byHead, List.range_succ]
theorem byHead_get (H : List Nat) (n k x : Nat) (hx : x < n) : (addA n (byHead H k)).getD x [] = (List.range k).filter (fun v => H.getD v 0 == x) := by
  rw [addA_get n _ x hx]
  unfold byHead
  rw [List.filter_map, List.map_map]
  simp [Function.comp_def]
end Go.Proofs.Ytobpolmlblpmjaa
