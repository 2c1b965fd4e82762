/-
  The walk of the law RoomTells at the program.
-/
import Derived.Test.YtfeiapkifoakoaaOurRoom
import Derived.Test.YtfeiapkifoakoaaOurRef
import Derived.Test.YtfeiapkifoakoaaTells
import Derived.Test.YtfeiapkifoakoaaSpOpen
namespace Go.Proofs.Ytfeiapkifoakoaa
set_option linter.unusedVariables false
open Go.RowKit
namespace roomTells
theorem walk (w : World) (v : Value) (A : Option Addr) (n cap : Nat) (x : Value) (s : Sp) (size d f u : Int) (hv : v = .slice A n cap ∧ (n ≤ 1000000 → ∃ l : List Sp, l.length = n ∧ SRow w w.heap.size v l)) (hs : x = spv s ∧ s.wf) (w1 : (Lit.int .i64 size).wf = true) (w2 : (Lit.int .i64 d).wf = true) (w3 : (Lit.int .i64 f).wf = true) (w4 : (Lit.int .i64 u).wf = true) :
    Calls Try.prog 3 #[v, x, .int .i64 size, .int .i64 d, .int .i64 f, .int .i64 u] w fun e w' => e = .returned (.bool true) ∧ Below w.heap.size w w' := by
  obtain ⟨rfl, hs⟩ := hs
  obtain ⟨rfl, hl⟩ := hv
  by_cases hn : n ≤ 40
  · obtain ⟨l, hl, hr⟩ := hl (by omega)
    have g1 := int_wf w1
    have g2 := int_wf w2
    have g3 := int_wf w3
    have g4 := int_wf w4
    exact tellsM room refRoom _ l s size d f u w hr (by omega) hs ⟨g1.1, g1.2, g2.1, g2.2⟩ ⟨g3.1, g3.2, g4.1, g4.2⟩
  · exact tellsL room A n cap s size d f u w (by omega)
end roomTells
end Go.Proofs.Ytfeiapkifoakoaa
