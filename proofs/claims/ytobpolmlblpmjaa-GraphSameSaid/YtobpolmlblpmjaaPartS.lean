/-
  Parts' first heap.
-/
import Derived.Test.YtobpolmlblpmjaaPartO
namespace Go.Proofs.Ytobpolmlblpmjaa
set_option linter.unusedVariables false
set_option linter.unusedSimpArgs false

/-- What the first loop asks of a node. -/
def firstB (A : Arcs) (n : Nat) (x : Nat) : Bool := decide (0 < ((addA n (byHead (hdL A n) n)).getD x []).length) && decide ((openL (hdL A n) n (pairs (nextOf n A))).getD x 0 = 0)
theorem Rdy.start {A : Arcs} {n : Nat} {h : List Nat} (hA : ∀ a ∈ A, a.1 < n ∧ a.2 < n) (hp : h.Perm ((List.range n).filter (firstB A n))) : Rdy A n [] h (openL (hdL A n) n (pairs (nextOf n A))) := by
  have hop : ∀ x, x < n → (openL (hdL A n) n (pairs (nextOf n A))).getD x 0 = openOf A n [] x := fun x hx => openL_open hA hx
  refine ⟨Listed.nil A n, hp.nodup_iff.2 (List.nodup_range.filter _), fun x => ?_, fun x hx _ => hop x hx⟩
  rw [hp.mem_iff, List.mem_filter, List.mem_range]
  unfold firstB Next
  simp only [Bool.and_eq_true, decide_eq_true_iff, List.not_mem_nil, not_false_iff, true_and]
  constructor
  · rintro ⟨h1, h2, h3⟩
    exact ⟨h1, (nodes_pos h1).1 h2, by rw [← hop x h1]; exact h3⟩
  · rintro ⟨h1, h2, h3⟩
    exact ⟨h1, (nodes_pos h1).2 h2, by rw [hop x h1]; exact h3⟩
theorem first_step (A : Arcs) (n k : Nat) : (List.range (k + 1)).filter (firstB A n) = (List.range k).filter (firstB A n) ++ if firstB A n k = true then [k] else [] := by
  rw [List.range_succ, List.filter_append]
  congr 1
  cases hb : firstB A n k <;> simp [List.filter_cons, hb]
end Go.Proofs.Ytobpolmlblpmjaa
