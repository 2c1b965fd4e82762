/-
  The walk of the law RoomOrders at the program.
-/
import Derived.Test.YtclbbeolkhmnlaaOurRoom
import Derived.Test.YtclbbeolkhmnlaaOrders
namespace Go.Proofs.Ytclbbeolkhmnlaa
set_option linter.unusedVariables false
open Go.RowKit
namespace roomOrders
theorem walk (w : World) (v : Value) (A : Option Addr) (n cap : Nat) (hv : v = .slice A n cap ∧ (n ≤ 1000000 → ∃ l : List Sp, l.length = n ∧ SRow w w.heap.size v l)) :
    Calls Try.prog 6 #[v] w fun e w' => e = .returned (.bool true) ∧ Below w.heap.size w w' := by
  obtain ⟨rfl, hl⟩ := hv
  by_cases hn : n ≤ 20
  · obtain ⟨l, hl, hr⟩ := hl (by omega)
    exact ordersM room _ l w hr (by omega)
  · exact ordersL room A n cap w (by omega)
end roomOrders
end Go.Proofs.Ytclbbeolkhmnlaa
