/-
  The reference of isa: Get.
-/
import Derived.Test.YtmnhnighlgpjmaaDoorIQ
namespace Go.Proofs.YtmnhnighlgpjmaaDoor
set_option linter.unusedVariables false
set_option linter.unusedSimpArgs false
open Go.RowKit

set_option maxRecDepth 100000 in
theorem rGetP (o a b c m : Int) (k : Nat) (w : World) (hk : 1 ≤ k ∧ k ≤ 4) :
    Calls Tryd.prog 32 #[.agg #[.int .i64 o, .int .i64 a, .int .i64 b, .int .i64 c, .int .i64 m], .int .i64 k] w fun e w' => e = .returned (.int .i64 (fldN ⟨o, a, b, c, m⟩ (k - 1))) ∧ Below w.heap.size w w' := by
  have hc : k = 1 ∨ k = 2 ∨ k = 3 ∨ k = 4 := by omega
  have HB := Lib.hid (below_new w (.cells #[.int .i64 o, .int .i64 a, .int .i64 b, .int .i64 c, .int .i64 m] 23))
  rcases hc with rfl | rfl | rfl | rfl
  all_goals
    go_enter Tryd.func32, Tryd.ntmps32
    go_wp2_with fail
    go_ret
    exact ⟨rfl, HB.out⟩

end Go.Proofs.YtmnhnighlgpjmaaDoor
