/-
  The walk of IsaParses: its cases.
-/
import Derived.Test.YtijcdhkojidgeaaDoorIZa
import Derived.Test.YtijcdhkojidgeaaDoorIZb
namespace Go.Proofs.YtijcdhkojidgeaaDoor.isaParses
set_option linter.unusedVariables false
set_option linter.unusedSimpArgs false
open Go.RowKit

set_option maxRecDepth 100000 in
set_option maxHeartbeats 4000000 in
theorem longP (s : ByteArray) (tb : Bool) (w : World) (hL : LaidI w) (hs : 300 < s.size) (ws : s.size ≤ 9223372036854775807) :
    Calls Tryd.prog 6 #[.string s, .bool tb] w fun e w' => e = .returned (.bool true) ∧ Below w.heap.size w w' := by
  have hd : (300 : Int) < s.size := by omega
  have KS := Lib.hid (smallP w hL)
  clear hL
  go_enter Tryd.func6, Tryd.ntmps6
  go_wp2_with fail
  refine KS.out.mono ?_; rintro e w1 ⟨rfl, hb⟩
  have HB := Lib.hid hb
  clear hb
  go_wp2_with fail
  go_ret
  exact ⟨rfl, HB.out⟩

theorem walk (w : World) (hL : LaidI w) (s : ByteArray) (tb : Bool) (ws : s.size ≤ 9223372036854775807) :
    Calls Tryd.prog 6 #[.string s, .bool tb] w fun e w' => e = .returned (.bool true) ∧ Below w.heap.size w w' := by
  by_cases hs : s.size ≤ 300
  · cases tb
    · exact walkIZa s w hL hs
    · exact walkIZb s w hL hs
  · exact longP s tb w hL (by omega) ws
end Go.Proofs.YtijcdhkojidgeaaDoor.isaParses
