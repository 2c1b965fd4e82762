/-
  The walk of the law DigestShorts at the program.
-/
import Derived.Test.YtcekmedfphmpcaaDoorOur
import Derived.Test.YtcekmedfphmpcaaDoorLongs
namespace Go.Proofs.YtcekmedfphmpcaaDoor
set_option linter.unusedVariables false
open Go.RowKit
namespace digestShorts
theorem walk (w : World) (hL : Laid w) (a : ByteArray) (ha : a.size ≤ maxLen) :
    Calls Tryd.prog 8 #[.string a] w fun e w' => e = .returned (.bool true) ∧ Below w.heap.size w w' := by
  by_cases h : 2000 < a.size
  · exact shortsL dig a w hL h
  · have h2 := shortsD dig a.data.toList w (by rw [← bs_size, bs_data]; omega) hL
    rw [bs_data] at h2
    exact h2
end digestShorts
end Go.Proofs.YtcekmedfphmpcaaDoor
