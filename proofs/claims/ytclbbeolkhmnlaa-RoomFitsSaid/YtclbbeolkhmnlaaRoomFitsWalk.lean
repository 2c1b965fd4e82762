/-
  The walk of the law RoomFits at the program.
-/
import Derived.Test.YtclbbeolkhmnlaaOurRoom
import Derived.Test.YtclbbeolkhmnlaaFits
import Derived.Test.YtclbbeolkhmnlaaSpOpen
namespace Go.Proofs.Ytclbbeolkhmnlaa
set_option linter.unusedVariables false
open Go.RowKit
namespace roomFits
theorem walk (w : World) (v : Value) (A : Option Addr) (n cap : Nat) (size d f u m : Int) (hv : v = .slice A n cap ∧ (n ≤ 1000000 → ∃ l : List Sp, l.length = n ∧ SRow w w.heap.size v l)) (w1 : (Lit.int .i64 size).wf = true) (w2 : (Lit.int .i64 d).wf = true) (w3 : (Lit.int .i64 f).wf = true) (w4 : (Lit.int .i64 u).wf = true) (w5 : (Lit.int .i64 m).wf = true) :
    Calls Try.prog 7 #[v, .int .i64 size, .int .i64 d, .int .i64 f, .int .i64 u, .int .i64 m] w fun e w' => e = .returned (.bool true) ∧ Below w.heap.size w w' := by
  obtain ⟨rfl, hl⟩ := hv
  by_cases hn : n ≤ 40
  · obtain ⟨l, hl, hr⟩ := hl (by omega)
    by_cases h : right l ∧ 1 ≤ size ∧ size ≤ 1099511627776 ∧ 1 ≤ d ∧ d ≤ 1099511627776
    · obtain ⟨h0, h1, h2, h3, h4⟩ := h
      have g3 := int_wf w3
      have g4 := int_wf w4
      have g5 := int_wf w5
      have wf : Sp.wf ⟨f, u⟩ := ⟨g3.1, g3.2, g4.1, g4.2⟩
      have wn : Sp.wf ⟨m, m⟩ := ⟨g5.1, g5.2, g5.1, g5.2⟩
      rcases hf : fitL l size d f u with _ | a
      · exact fitsN room _ l size d f u m w hr (by omega) h0 h1 h2 h3 h4 wf wn hf
      · exact fitsS room _ l size d f u m w hr (by omega) h0 h1 h2 h3 h4 wf wn a hf
    · exact fitsB room _ l size d f u m w hr (by omega) h
  · exact fitsL room A n cap size d f u m w (by omega)
end roomFits
end Go.Proofs.Ytclbbeolkhmnlaa
