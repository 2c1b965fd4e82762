/-
  Contracts of the law's helpers: kind.
-/
import Derived.Test.YtebepofbngdccaaSmallW
namespace Go.Proofs.Ytebepofbngdccaa
set_option linter.unusedVariables false
set_option linter.unusedSimpArgs false
open Go.RowKit

theorem tmod5 (k : Int) : (k.tmod 5 < 0 → k.tmod 5 + 5 = k % 5) ∧ (0 ≤ k.tmod 5 → k.tmod 5 = k % 5) ∧ -5 < k.tmod 5 ∧ k.tmod 5 < 5 := by
  have h := Int.tmod_eq_emod (a := k) (b := 5)
  split at h <;> omega

set_option maxRecDepth 100000 in
theorem kind_any (k : Int) (v1 v2 v3 v4 : Value) (w : World) :
    Calls Try.prog 23 #[.agg #[.int .i64 k, v1, v2, v3, v4]] w fun e w' => e = .returned (.int .i64 (k % 5)) ∧ Below w.heap.size w w' := by
  obtain ⟨h1, h2, h3, h4⟩ := tmod5 k
  obtain ⟨r, hr⟩ : ∃ r, k.tmod 5 = r := ⟨_, rfl⟩
  rw [hr] at h1 h2 h3 h4
  by_cases hn : r < 0
  · have H1 := Lib.hid (h1 hn)
    clear h1 h2
    go_enter Try.func23, Try.ntmps23
    go_wp2
    go_ret
    exact ⟨by rw [← H1.out]; rfl, (Below.refl _ _).alloc (Nat.le_refl _) _⟩
  · have H1 := Lib.hid (h2 (by omega))
    clear h1 h2
    go_enter Try.func23, Try.ntmps23
    go_wp2
    go_ret
    exact ⟨by rw [← H1.out]; rfl, (Below.refl _ _).alloc (Nat.le_refl _) _⟩
end Go.Proofs.Ytebepofbngdccaa
