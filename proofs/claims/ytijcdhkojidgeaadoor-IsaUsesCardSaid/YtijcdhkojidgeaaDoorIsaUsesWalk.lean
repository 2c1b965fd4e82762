/-
  The walk of IsaUses: its cases.
-/
import Derived.Test.YtijcdhkojidgeaaDoorIUe
import Derived.Test.YtijcdhkojidgeaaDoorIUm0
import Derived.Test.YtijcdhkojidgeaaDoorIUm1
import Derived.Test.YtijcdhkojidgeaaDoorIUm2
import Derived.Test.YtijcdhkojidgeaaDoorIUm3
namespace Go.Proofs.YtijcdhkojidgeaaDoor.isaUses
set_option linter.unusedVariables false
set_option linter.unusedSimpArgs false
open Go.RowKit

theorem masks_of : ∀ o, o < 31 → (hasB (opsN o) 0 = false ∧ hasB (opsN o) 1 = false ∧ hasB (opsN o) 2 = false) ∨ (hasB (opsN o) 0 = true ∧ hasB (opsN o) 1 = false ∧ hasB (opsN o) 2 = false) ∨
    (hasB (opsN o) 0 = true ∧ hasB (opsN o) 1 = true ∧ hasB (opsN o) 2 = false) ∨ (hasB (opsN o) 0 = true ∧ hasB (opsN o) 1 = true ∧ hasB (opsN o) 2 = true) := by decide +kernel

theorem walk (w : World) (hL : LaidI w) (i : Value) (o a b c m : Int) (x y : Int)
    (hi : i = .agg #[.int .i64 o, .int .i64 a, .int .i64 b, .int .i64 c, .int .i64 m] ∧ bd64 o ∧ bd64 a ∧ bd64 b ∧ bd64 c ∧ bd64 m) (wx : (Lit.int .i64 x).wf = true) (wy : (Lit.int .i64 y).wf = true) :
    Calls Tryd.prog 7 #[i, .int .i64 x, .int .i64 y] w fun e w' => e = .returned (.bool true) ∧ Below w.heap.size w w' := by
  obtain ⟨rfl, _⟩ := hi
  show Calls Tryd.prog _ _ w (Goal w)
  cases hr : rightB ⟨o, a, b, c, m⟩
  · exact noP o a b c m x y w hL hr
  have ho := right_op hr
  simp only at ho
  obtain ⟨n, rfl⟩ := Int.eq_ofNat_of_zero_le (a := o) (by omega)
  by_cases h30 : n = 30
  · exact e30 n a b c m x y w hL hr (beq_iff_eq.2 (by omega))
  have h30' : ((n : Int) == 30) = false := beq_eq_false_iff_ne.2 (by omega)
  by_cases hx0 : x < 0
  · exact ex0 n a b c m x y w hL hr h30' hx0
  have hx0' := decide_eq_false hx0
  by_cases hx1 : 14 < x
  · exact ex1 n a b c m x y w hL hr h30' hx0' hx1
  have hx1' := decide_eq_false hx1
  by_cases hy0 : y < 0
  · exact ey0 n a b c m x y w hL hr h30' hx0' hx1' hy0
  have hy0' := decide_eq_false hy0
  by_cases hy1 : 14 < y
  · exact ey1 n a b c m x y w hL hr h30' hx0' hx1' hy0' hy1
  have hy1' := decide_eq_false hy1
  rcases masks_of n (by omega) with ⟨h0, h1, h2⟩ | ⟨h0, h1, h2⟩ | ⟨h0, h1, h2⟩ | ⟨h0, h1, h2⟩
  · exact m0 n a b c m x y w hL hr h30' hx0' hx1' hy0' hy1' h0 h1 h2
  · exact m1 n a b c m x y w hL hr h30' hx0' hx1' hy0' hy1' h0 h1 h2
  · exact m2 n a b c m x y w hL hr h30' hx0' hx1' hy0' hy1' h0 h1 h2
  · exact m3 n a b c m x y w hL hr h30' hx0' hx1' hy0' hy1' h0 h1 h2
end Go.Proofs.YtijcdhkojidgeaaDoor.isaUses
