/-
  The walk of the law DigestResidue at the program.
-/
import Derived.Test.YtcekmedfphmpcaaDoorOur
import Derived.Test.YtcekmedfphmpcaaDoorLongs
namespace Go.Proofs.YtcekmedfphmpcaaDoor
set_option linter.unusedVariables false
open Go.RowKit
namespace digestResidue
theorem walk (w : World) (hL : Laid w) (a : ByteArray) (ha : a.size ≤ maxLen) :
    Calls Tryd.prog 6 #[.string a] w fun e w' => e = .returned (.bool true) ∧ Below w.heap.size w w' := by
  by_cases h : 2000 < a.size
  · exact residueL dig a w hL h
  · have h2 := residueD dig a.data.toList w (by rw [← bs_size, bs_data]; omega) hL
    rw [bs_data] at h2
    exact h2
end digestResidue
end Go.Proofs.YtcekmedfphmpcaaDoor
