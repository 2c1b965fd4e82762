/-
  The walk of the law DigestXors at the program.
-/
import Derived.Test.YtcekmedfphmpcaaDoorOur
import Derived.Test.YtcekmedfphmpcaaDoorLongs
import Derived.Test.YtcekmedfphmpcaaDoorXors
namespace Go.Proofs.YtcekmedfphmpcaaDoor
set_option linter.unusedVariables false
open Go.RowKit
namespace digestXors
theorem walk (w : World) (hL : Laid w) (a b c : ByteArray) (ha : a.size ≤ maxLen) (hb : b.size ≤ maxLen) (hc : c.size ≤ maxLen) :
    Calls Tryd.prog 7 #[.string a, .string b, .string c] w fun e w' => e = .returned (.bool true) ∧ Below w.heap.size w w' := by
  by_cases h : 2000 < a.size ∧ 2000 < b.size ∧ 2000 < c.size
  · exact xorsL dig a b c w hL h
  · obtain ⟨n, hn, h1, h2, h3, h4⟩ : ∃ n : Nat, (if (c.size : Int) < (if (b.size : Int) < (a.size : Int) then (b.size : Int) else (a.size : Int)) then (c.size : Int) else (if (b.size : Int) < (a.size : Int) then (b.size : Int) else (a.size : Int))) = (n : Int) ∧ n ≤ a.size ∧ n ≤ b.size ∧ n ≤ c.size ∧ n ≤ 2000 := by
      by_cases h1 : (b.size : Int) < (a.size : Int)
      · simp only [if_pos h1]
        by_cases h2 : (c.size : Int) < (b.size : Int)
        · exact ⟨c.size, by rw [if_pos h2], by omega, by omega, by omega, by omega⟩
        · exact ⟨b.size, by rw [if_neg h2], by omega, by omega, by omega, by omega⟩
      · simp only [if_neg h1]
        by_cases h2 : (c.size : Int) < (a.size : Int)
        · exact ⟨c.size, by rw [if_pos h2], by omega, by omega, by omega, by omega⟩
        · exact ⟨a.size, by rw [if_neg h2], by omega, by omega, by omega, by omega⟩
    exact xorsD dig a b c n w hL hn h1 h2 h3 h4
end digestXors
end Go.Proofs.YtcekmedfphmpcaaDoor
