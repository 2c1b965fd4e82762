/-
  The walk of the law DigestDetects at the program.
-/
import Derived.Test.YtcekmedfphmpcaaDoorOur
import Derived.Test.YtcekmedfphmpcaaDoorLongs
namespace Go.Proofs.YtcekmedfphmpcaaDoor
set_option linter.unusedVariables false
open Go.RowKit
namespace digestDetects
theorem walk (w : World) (hL : Laid w) (a : ByteArray) (bit pat : Int) (ha : a.size ≤ maxLen) (hb : (Lit.int .i64 bit).wf = true) (hp : (Lit.int .i64 pat).wf = true) :
    Calls Tryd.prog 5 #[.string a, .int .i64 bit, .int .i64 pat] w fun e w' => e = .returned (.bool true) ∧ Below w.heap.size w w' := by
  by_cases h : 2000 < a.size ∨ bit < 0 ∨ 8 * (a.size : Int) ≤ bit
  · exact detectsL dig a bit pat w hL h
  · have hs : a.size = a.data.toList.length := by rw [← bs_size, bs_data]
    have h2 := detectsD dig a.data.toList bit.toNat pat w (by omega) (by omega) hL
    rw [bs_data, show ((bit.toNat : Nat) : Int) = bit by omega] at h2
    exact h2
end digestDetects
end Go.Proofs.YtcekmedfphmpcaaDoor
