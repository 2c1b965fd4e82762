/-
  The walk of the law WordTells.
-/
import Derived.Test.YtfhdgnacgnkamaaSmall
import Derived.Test.YtfhdgnacgnkamaaRefC
namespace Go.Proofs.Ytfhdgnacgnkamaa.wordTells
set_option linter.unusedVariables false
set_option linter.unusedSimpArgs false
open Go.RowKit

set_option maxHeartbeats 1000000 in
theorem long (s : ByteArray) (p n x : Int) (g : Bool) (hL : 1000 < (s.size : Int)) (w : World) :
    Calls Try.prog 3 #[.string s, .int .i64 p, .int .i64 n, .int .i64 x, .bool g] w fun e w' => e = .returned (.bool true) ∧ Below w.heap.size w w' := by
  go_enter Try.func3, Try.ntmps3
  go_wp2_with fail
  refine (small_any _).mono ?_; rintro e w' ⟨rfl, hB⟩
  go_wp2_with fail
  go_ret
  exact ⟨rfl, hB⟩

/-- What both answer: the value. -/
theorem get_both (s : ByteArray) (p n : Int) (g : Bool) (hs : s.size ≤ 9223372036854775807) : ∃ (v : Int) (c : Bool),
    (∀ w, Calls Try.prog 9 #[.string s, .int .i64 p, .int .i64 n, .bool g] w fun e w' => e = .returned (.tuple #[.int .i64 v, .bool c]) ∧ w = w') ∧
    (∀ w, Calls Try.prog 10 #[.string s, .int .i64 p, .int .i64 n, .bool g] w fun e w' => e = .returned (.tuple #[.int .i64 v, .bool c]) ∧ w = w') := by
  by_cases hf : isField s p n
  · exact ⟨_, _, fun w => get_yes s p n g w hs hf, fun w => rget_yes s p n g w hs hf⟩
  · exact ⟨_, _, fun w => get_no s p n g w hs hf, fun w => rget_no s p n g w hs hf⟩

/-- What both answer: the string. -/
theorem put_both (s : ByteArray) (p n x : Int) (hs : s.size ≤ 9223372036854775807) (h1 : -9223372036854775808 ≤ x) (h2 : x ≤ 9223372036854775807) : ∃ (t : ByteArray) (c : Bool),
    (∀ w, Calls Try.prog 11 #[.string s, .int .i64 p, .int .i64 n, .int .i64 x] w fun e w' => e = .returned (.tuple #[.string t, .bool c]) ∧ Below w.heap.size w w') ∧
    (∀ w, Calls Try.prog 12 #[.string s, .int .i64 p, .int .i64 n, .int .i64 x] w fun e w' => e = .returned (.tuple #[.string t, .bool c]) ∧ Below w.heap.size w w') := by
  by_cases hf : isField s p n
  · cases hx : (fitsB x (8 * n) true || fitsB x (8 * n) false)
    · exact ⟨_, _, fun w => put_wide s p n x w hs hf hx, fun w => rput_wide s p n x w hs hf h1 h2 hx⟩
    · exact ⟨_, _, fun w => put_yes s p n x w hs hf hx, fun w => rput_yes s p n x w hs hf h1 h2 hx⟩
  · exact ⟨_, _, fun w => put_none s p n x w hs hf, fun w => rput_none s p n x w hs hf⟩

set_option maxHeartbeats 2000000 in
theorem tells (s : ByteArray) (p n x : Int) (g : Bool) (hs : s.size ≤ 9223372036854775807) (hL : ¬ 1000 < (s.size : Int)) (h1 : -9223372036854775808 ≤ x) (h2 : x ≤ 9223372036854775807) (w : World) :
    Calls Try.prog 3 #[.string s, .int .i64 p, .int .i64 n, .int .i64 x, .bool g] w fun e w' => e = .returned (.bool true) ∧ Below w.heap.size w w' := by
  obtain ⟨v, c, g1, g2⟩ := get_both s p n g hs
  obtain ⟨t, d, p1, p2⟩ := put_both s p n x hs h1 h2
  have G1 := Lib.hid g1
  have G2 := Lib.hid g2
  have P1 := Lib.hid p1
  have P2 := Lib.hid p2
  clear g1 g2 p1 p2
  go_enter Try.func3, Try.ntmps3
  go_wp2_with fail
  refine (small_any _).mono ?_; rintro e w' ⟨rfl, hB⟩
  go_wp2_with fail
  refine (G1.out _).mono ?_; rintro e w' ⟨rfl, rfl⟩
  go_wp2_with fail
  refine (G2.out _).mono ?_; rintro e w' ⟨rfl, rfl⟩
  go_wp2_with fail
  refine (P1.out _).mono ?_; rintro e w2 ⟨rfl, hB2⟩
  go_wp2_with fail
  refine (P2.out _).mono ?_; rintro e w3 ⟨rfl, hB3⟩
  have hBB := Lib.hid ((hB.trans (hB2.mono hB.size)).trans (hB3.mono (Nat.le_trans hB.size hB2.size)))
  clear hB hB2 hB3
  go_wp2_with fail
  refine (fits_any _ _ _ _).mono ?_; rintro e w' ⟨rfl, rfl⟩
  go_wp2_with fail
  refine (rfits_any _ _ _ _ h1 h2).mono ?_; rintro e w' ⟨rfl, rfl⟩
  go_wp2_with fail
  refine (up_any _ _ _ h1 h2).mono ?_; rintro e w' ⟨rfl, rfl⟩
  go_wp2_with fail
  refine (rup_any _ _ _).mono ?_; rintro e w' ⟨rfl, rfl⟩
  go_wp2_with fail
  refine (down_any _ _ _).mono ?_; rintro e w' ⟨rfl, rfl⟩
  go_wp2_with fail
  refine (rdown_any _ _ _).mono ?_; rintro e w' ⟨rfl, rfl⟩
  go_wp2_with fail
  refine (power_any _ _).mono ?_; rintro e w' ⟨rfl, rfl⟩
  go_wp2_with fail
  refine (rpower_any _ _).mono ?_; rintro e w' ⟨rfl, rfl⟩
  go_wp2_with fail
  go_ret
  exact ⟨rfl, hBB.out⟩

theorem walk (a0 : ByteArray) (a1 a2 a3 : Int) (a4 : Bool) (w0 : a0.size ≤ maxLen) (w1 : (Lit.int .i64 a1).wf = true) (w2 : (Lit.int .i64 a2).wf = true) (w3 : (Lit.int .i64 a3).wf = true) (w : World) :
    Calls Try.prog 3 #[.string a0, .int .i64 a1, .int .i64 a2, .int .i64 a3, .bool a4] w fun e w' => e = .returned (.bool true) ∧ Below w.heap.size w w' := by
  have hs : a0.size ≤ 9223372036854775807 := by unfold maxLen at w0; omega
  obtain ⟨b1, b2⟩ := int_bd w3
  by_cases hL : 1000 < (a0.size : Int)
  · exact long a0 a1 a2 a3 a4 hL w
  · exact tells a0 a1 a2 a3 a4 hs hL b1 b2 w
end Go.Proofs.Ytfhdgnacgnkamaa.wordTells
