/-
  The walk of the law RoomCounts at the program.
-/
import Derived.Test.YtclbbeolkhmnlaaOurRoom
import Derived.Test.YtclbbeolkhmnlaaCounts
namespace Go.Proofs.Ytclbbeolkhmnlaa
set_option linter.unusedVariables false
open Go.RowKit
namespace roomCounts
theorem walk (w : World) (v : Value) (A : Option Addr) (n cap : Nat) (u : Value) (s : Sp) (hv : v = .slice A n cap ∧ (n ≤ 1000000 → ∃ l : List Sp, l.length = n ∧ SRow w w.heap.size v l)) (hu : u = spv s ∧ s.wf) :
    Calls Try.prog 5 #[v, u] w fun e w' => e = .returned (.bool true) ∧ Below w.heap.size w w' := by
  obtain ⟨rfl, hs⟩ := hu
  obtain ⟨rfl, hl⟩ := hv
  by_cases hn : n ≤ 40
  · obtain ⟨l, hl, hr⟩ := hl (by omega)
    by_cases h : right l ∧ s.ok
    · exact countsM room _ l s w hr (by omega) hs h.1 h.2
    · exact countsB room _ l s w hr (by omega) hs h
  · exact countsL room A n cap s w (by omega)
end roomCounts
end Go.Proofs.Ytclbbeolkhmnlaa
