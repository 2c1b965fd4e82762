/-
  The walk of the law RoomSets at the program.
-/
import Derived.Test.YtclbbeolkhmnlaaOurRoom
import Derived.Test.YtclbbeolkhmnlaaSets
namespace Go.Proofs.Ytclbbeolkhmnlaa
set_option linter.unusedVariables false
open Go.RowKit
namespace roomSets
theorem walk (w : World) (v : Value) (A : Option Addr) (n cap : Nat) (u : Value) (s : Sp) (a : Int) (hv : v = .slice A n cap ∧ (n ≤ 1000000 → ∃ l : List Sp, l.length = n ∧ SRow w w.heap.size v l)) (hu : u = spv s ∧ s.wf) (ha : (Lit.int .i64 a).wf = true) :
    Calls Try.prog 4 #[v, u, .int .i64 a] w fun e w' => e = .returned (.bool true) ∧ Below w.heap.size w w' := by
  obtain ⟨rfl, hs⟩ := hu
  obtain ⟨rfl, hl⟩ := hv
  by_cases hn : n ≤ 40
  · obtain ⟨l, hl, hr⟩ := hl (by omega)
    by_cases h : right l ∧ s.ok ∧ 0 ≤ a ∧ a < 1099511627776
    · exact setsM room _ l s a w hr (by omega) hs h.1 h.2.1 h.2.2.1 h.2.2.2
    · exact setsB room _ l s a w hr (by omega) hs h
  · exact setsL room A n cap s a w (by omega)
end roomSets
end Go.Proofs.Ytclbbeolkhmnlaa
