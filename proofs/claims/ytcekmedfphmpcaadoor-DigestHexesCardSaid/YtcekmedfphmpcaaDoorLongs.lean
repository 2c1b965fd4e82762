/-
  The laws of stage 3 on strings that are too long, and on bits that are not in the string: they answer their head.
-/
import Derived.Test.YtcekmedfphmpcaaDoorDigLaws3
namespace Go.Proofs.YtcekmedfphmpcaaDoor
set_option linter.unusedVariables false
set_option linter.unusedSimpArgs false
open Go.RowKit

section
variable {L : World → Prop} (D : Dig L)
include D

set_option maxRecDepth 100000 in
set_option maxHeartbeats 2000000 in
theorem tellsL (a b : ByteArray) (w : World) (hL : L w) (h : 2000 < a.size ∨ 2000 < b.size) :
    Calls Tryd.prog 3 #[.string a, .string b] w fun e w' => e = .returned (.bool true) ∧ Below w.heap.size w w' := by
  have HSm := Lib.hid (fun w (hL : L w) => smallD D w hL)
  by_cases h1 : 2000 < a.size
  · clear h
    go_enter Tryd.func3, Tryd.ntmps3
    go_wp2_with fail
    refine (HSm.out _ hL).mono ?_; rintro e w1 ⟨rfl, b1⟩
    go_wp2_with fail
    all_goals
      go_ret
      exact ⟨rfl, b1⟩
  · have h2 : 2000 < b.size := by omega
    clear h
    go_enter Tryd.func3, Tryd.ntmps3
    go_wp2_with fail
    refine (HSm.out _ hL).mono ?_; rintro e w1 ⟨rfl, b1⟩
    go_wp2_with fail
    all_goals
      go_ret
      exact ⟨rfl, b1⟩

set_option maxRecDepth 100000 in
set_option maxHeartbeats 2000000 in
theorem hexesL (a b : ByteArray) (w : World) (hL : L w) (h : 2000 < a.size ∨ 2000 < b.size) :
    Calls Tryd.prog 4 #[.string a, .string b] w fun e w' => e = .returned (.bool true) ∧ Below w.heap.size w w' := by
  have HSm := Lib.hid (fun w (hL : L w) => smallD D w hL)
  by_cases h1 : 2000 < a.size
  · clear h
    go_enter Tryd.func4, Tryd.ntmps4
    go_wp2_with fail
    refine (HSm.out _ hL).mono ?_; rintro e w1 ⟨rfl, b1⟩
    go_wp2_with fail
    all_goals
      go_ret
      exact ⟨rfl, b1⟩
  · have h2 : 2000 < b.size := by omega
    clear h
    go_enter Tryd.func4, Tryd.ntmps4
    go_wp2_with fail
    refine (HSm.out _ hL).mono ?_; rintro e w1 ⟨rfl, b1⟩
    go_wp2_with fail
    all_goals
      go_ret
      exact ⟨rfl, b1⟩

set_option maxRecDepth 100000 in
set_option maxHeartbeats 2000000 in
theorem residueL (a : ByteArray) (w : World) (hL : L w) (h : 2000 < a.size) :
    Calls Tryd.prog 6 #[.string a] w fun e w' => e = .returned (.bool true) ∧ Below w.heap.size w w' := by
  have HSm := Lib.hid (fun w (hL : L w) => smallD D w hL)
  go_enter Tryd.func6, Tryd.ntmps6
  go_wp2_with fail
  refine (HSm.out _ hL).mono ?_; rintro e w1 ⟨rfl, b1⟩
  go_wp2_with fail
  all_goals
    go_ret
    exact ⟨rfl, b1⟩

set_option maxRecDepth 100000 in
set_option maxHeartbeats 2000000 in
theorem shortsL (a : ByteArray) (w : World) (hL : L w) (h : 2000 < a.size) :
    Calls Tryd.prog 8 #[.string a] w fun e w' => e = .returned (.bool true) ∧ Below w.heap.size w w' := by
  have HSm := Lib.hid (fun w (hL : L w) => smallD D w hL)
  go_enter Tryd.func8, Tryd.ntmps8
  go_wp2_with fail
  refine (HSm.out _ hL).mono ?_; rintro e w1 ⟨rfl, b1⟩
  go_wp2_with fail
  all_goals
    go_ret
    exact ⟨rfl, b1⟩

set_option maxRecDepth 100000 in
set_option maxHeartbeats 2000000 in
theorem detectsL (a : ByteArray) (bit pat : Int) (w : World) (hL : L w) (h : 2000 < a.size ∨ bit < 0 ∨ 8 * (a.size : Int) ≤ bit) :
    Calls Tryd.prog 5 #[.string a, .int .i64 bit, .int .i64 pat] w fun e w' => e = .returned (.bool true) ∧ Below w.heap.size w w' := by
  have HSm := Lib.hid (fun w (hL : L w) => smallD D w hL)
  by_cases h1 : 2000 < a.size
  · clear h
    go_enter Tryd.func5, Tryd.ntmps5
    go_wp2_with fail
    refine (HSm.out _ hL).mono ?_; rintro e w1 ⟨rfl, b1⟩
    go_wp2_with fail
    all_goals
      go_ret
      exact ⟨rfl, b1⟩
  · by_cases h2 : bit < 0
    · clear h
      go_enter Tryd.func5, Tryd.ntmps5
      go_wp2_with fail
      refine (HSm.out _ hL).mono ?_; rintro e w1 ⟨rfl, b1⟩
      go_wp2_with fail
      all_goals
        go_ret
        exact ⟨rfl, b1⟩
    · have h3 : 8 * (a.size : Int) ≤ bit := by omega
      clear h
      go_enter Tryd.func5, Tryd.ntmps5
      go_wp2_with fail
      refine (HSm.out _ hL).mono ?_; rintro e w1 ⟨rfl, b1⟩
      go_wp2_with fail
      all_goals
        go_ret
        exact ⟨rfl, b1⟩

set_option maxRecDepth 100000 in
set_option maxHeartbeats 2000000 in
theorem xorsL (a b c : ByteArray) (w : World) (hL : L w) (h : 2000 < a.size ∧ 2000 < b.size ∧ 2000 < c.size) :
    Calls Tryd.prog 7 #[.string a, .string b, .string c] w fun e w' => e = .returned (.bool true) ∧ Below w.heap.size w w' := by
  have HSm := Lib.hid (fun w (hL : L w) => smallD D w hL)
  obtain ⟨n, hn⟩ : ∃ n : Nat, (if (c.size : Int) < (if (b.size : Int) < (a.size : Int) then (b.size : Int) else (a.size : Int)) then (c.size : Int) else (if (b.size : Int) < (a.size : Int) then (b.size : Int) else (a.size : Int))) = (n : Int) := ⟨if c.size < (if b.size < a.size then b.size else a.size) then c.size else (if b.size < a.size then b.size else a.size), by split <;> split <;> split <;> split <;> omega⟩
  have hn2 : 2000 < n := by
    by_cases h1 : (b.size : Int) < (a.size : Int)
    · simp only [if_pos h1] at hn
      by_cases h2 : (c.size : Int) < (b.size : Int)
      · rw [if_pos h2] at hn; omega
      · rw [if_neg h2] at hn; omega
    · simp only [if_neg h1] at hn
      by_cases h2 : (c.size : Int) < (a.size : Int)
      · rw [if_pos h2] at hn; omega
      · rw [if_neg h2] at hn; omega
  clear h
  go_enter Tryd.func7, Tryd.ntmps7
  go_wp2_with fail
  refine (HSm.out _ hL).mono ?_; rintro e w1 ⟨rfl, b1⟩
  go_wp2_with fail
  all_goals
    go_ret
    exact ⟨rfl, b1⟩
end
end Go.Proofs.YtcekmedfphmpcaaDoor
