/-
  Divide's rows are the parts.
-/
import Derived.Test.YtobpolmlblpmjaaDivN
namespace Go.Proofs.Ytobpolmlblpmjaa
set_option linter.unusedVariables false
set_option linter.unusedSimpArgs false

theorem nodes_head {A : Arcs} {n h : Nat} (hh : h < n) (he : hd A n h = h) : (addA n (byHead (hdL A n) n)).getD h [] = partOf A n h := by
  rw [byHead_get _ n n h hh]
  unfold partOf
  apply List.filter_congr
  intro v hv
  have hvn := List.mem_range.1 hv
  rw [Bool.eq_iff_iff, beq_iff_eq, eqvB_iff, show (hdL A n).getD v 0 = hd A n v from getD_hd A n v hvn]
  constructor
  · intro h1
    have := (hd_iff hvn hh).1 (h1.trans he.symm)
    exact ⟨this.2, this.1⟩
  · intro h1
    rw [← he]
    exact (hd_iff hvn hh).2 ⟨h1.2, h1.1⟩
theorem nodes_other {A : Arcs} {n h : Nat} (hh : h < n) (he : hd A n h ≠ h) : (addA n (byHead (hdL A n) n)).getD h [] = [] := by
  rw [byHead_get _ n n h hh, List.filter_eq_nil_iff]
  intro v hv h1
  have hvn := List.mem_range.1 hv
  rw [beq_iff_eq, show (hdL A n).getD v 0 = hd A n v from getD_hd A n v hvn] at h1
  exact he (by rw [← h1]; exact hd_idem hvn)
theorem nodes_pos {A : Arcs} {n h : Nat} (hh : h < n) : 0 < ((addA n (byHead (hdL A n) n)).getD h []).length ↔ hd A n h = h := by
  by_cases he : hd A n h = h
  · rw [nodes_head hh he]
    exact ⟨fun _ => he, fun _ => List.length_pos_of_mem (mem_partOf.2 ⟨hh, eqv.refl A h⟩)⟩
  · rw [nodes_other hh he]; simp [he]
end Go.Proofs.Ytobpolmlblpmjaa
