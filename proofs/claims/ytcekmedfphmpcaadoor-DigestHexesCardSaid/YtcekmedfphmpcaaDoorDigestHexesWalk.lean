/-
  The walk of the law DigestHexes at the program.
-/
import Derived.Test.YtcekmedfphmpcaaDoorOur
import Derived.Test.YtcekmedfphmpcaaDoorLongs
namespace Go.Proofs.YtcekmedfphmpcaaDoor
set_option linter.unusedVariables false
open Go.RowKit
namespace digestHexes
theorem walk (w : World) (hL : Laid w) (a b : ByteArray) (ha : a.size ≤ maxLen) (hb : b.size ≤ maxLen) :
    Calls Tryd.prog 4 #[.string a, .string b] w fun e w' => e = .returned (.bool true) ∧ Below w.heap.size w w' := by
  by_cases h : 2000 < a.size ∨ 2000 < b.size
  · exact hexesL dig a b w hL h
  · have h2 := hexesD dig a.data.toList b.data.toList w (by rw [← bs_size, bs_data]; omega) (by rw [← bs_size, bs_data]; omega) hL
    rw [bs_data, bs_data] at h2
    exact h2
end digestHexes
end Go.Proofs.YtcekmedfphmpcaaDoor
