/-
  The walk of the law WordRanges.
-/
import Derived.Test.YtfhdgnacgnkamaaSmall
import Derived.Test.YtfhdgnacgnkamaaPureB
namespace Go.Proofs.Ytfhdgnacgnkamaa.wordRanges
set_option linter.unusedVariables false
set_option linter.unusedSimpArgs false
open Go.RowKit

set_option maxHeartbeats 1000000 in
theorem nofield (s : ByteArray) (p n x : Int) (g : Bool) (hs : s.size ≤ 9223372036854775807) (hf : ¬ isField s p n) (w : World) :
    Calls Try.prog 5 #[.string s, .int .i64 p, .int .i64 n, .int .i64 x, .bool g] w fun e w' => e = .returned (.bool true) ∧ Below w.heap.size w w' := by
  by_cases hL : 1000 < (s.size : Int)
  all_goals
    go_enter Try.func5, Try.ntmps5
    go_wp2_with fail
    refine (small_any _).mono ?_; rintro e w' ⟨rfl, hB⟩
    go_wp2_with fail
    refine (get_no _ _ _ _ _ hs hf).mono ?_; rintro e w' ⟨rfl, rfl⟩
    go_wp2_with fail
    go_ret
    exact ⟨rfl, hB⟩

set_option maxHeartbeats 1000000 in
theorem long (s : ByteArray) (p n x : Int) (g : Bool) (hs : s.size ≤ 9223372036854775807) (hf : isField s p n) (hL : 1000 < (s.size : Int)) (w : World) :
    Calls Try.prog 5 #[.string s, .int .i64 p, .int .i64 n, .int .i64 x, .bool g] w fun e w' => e = .returned (.bool true) ∧ Below w.heap.size w w' := by
  go_enter Try.func5, Try.ntmps5
  go_wp2_with fail
  refine (small_any _).mono ?_; rintro e w' ⟨rfl, hB⟩
  go_wp2_with fail
  refine (get_yes _ _ _ _ _ hs hf).mono ?_; rintro e w' ⟨rfl, rfl⟩
  go_wp2_with fail
  go_ret
  exact ⟨rfl, hB⟩

/-- What Put answers to a number: the one contract for numbers that fit and others. -/
theorem put_any (s : ByteArray) (p n x : Int) (hs : s.size ≤ 9223372036854775807) (hf : isField s p n) (c : Bool) (hc : (fitsB x (8 * n) true || fitsB x (8 * n) false) = c) (w : World) :
    Calls Try.prog 11 #[.string s, .int .i64 p, .int .i64 n, .int .i64 x] w fun e w' => e = .returned (.tuple #[.string (if c then putS s p n x else ⟨#[]⟩), .bool c]) ∧ Below w.heap.size w w' := by
  cases c
  · exact put_wide s p n x w hs hf hc
  · exact put_yes s p n x w hs hf hc

set_option maxHeartbeats 1000000 in
theorem some_truea (s : ByteArray) (p n x : Int) (hs : s.size ≤ 9223372036854775807) (hf : isField s p n) (hL : ¬ 1000 < (s.size : Int)) (c1 : fitsB x (8 * n) false = true) (w : World) :
    Calls Try.prog 5 #[.string s, .int .i64 p, .int .i64 n, .int .i64 x, .bool true] w fun e w' => e = .returned (.bool true) ∧ Below w.heap.size w w' := by
  have hr := val_range n true (bytesAt s p n) hf.1 (bytesAt_length s p n hf)
  simp only [Bool.true_or, Bool.false_or] at hr
  have n1 : 1 ≤ n := by have := hf.1; unfold isSize at this; omega
  have n8 : n ≤ 8 := by have := hf.1; unfold isSize at this; omega
  have hc : (fitsB x (8 * n) true || fitsB x (8 * n) false) = true := by rw [c1, Bool.or_true]
  have HC := Lib.hid hc
  clear hc
  go_enter Try.func5, Try.ntmps5
  go_wp2_with fail
  refine (small_any _).mono ?_; rintro e w' ⟨rfl, hB⟩
  go_wp2_with fail
  refine (get_yes _ _ _ _ _ hs hf).mono ?_; rintro e w' ⟨rfl, rfl⟩
  go_wp2_with fail
  refine (put_any _ _ _ _ hs hf _ HC.out _).mono ?_; rintro e w2 ⟨rfl, hB2⟩
  go_wp2_with fail
  refine (fits_any _ _ _ _).mono ?_; rintro e w' ⟨rfl, rfl⟩
  go_wp2_with fail
  refine (fits_any _ _ _ _).mono ?_; rintro e w' ⟨rfl, rfl⟩
  go_wp2_with fail
  go_ret
  exact ⟨rfl, hB.trans (hB2.mono hB.size)⟩

set_option maxHeartbeats 1000000 in
theorem some_trueb (s : ByteArray) (p n x : Int) (hs : s.size ≤ 9223372036854775807) (hf : isField s p n) (hL : ¬ 1000 < (s.size : Int)) (c1 : fitsB x (8 * n) false = false) (hT : fitsB x (8 * n) true = true) (w : World) :
    Calls Try.prog 5 #[.string s, .int .i64 p, .int .i64 n, .int .i64 x, .bool true] w fun e w' => e = .returned (.bool true) ∧ Below w.heap.size w w' := by
  have hr := val_range n true (bytesAt s p n) hf.1 (bytesAt_length s p n hf)
  simp only [Bool.true_or, Bool.false_or] at hr
  have n1 : 1 ≤ n := by have := hf.1; unfold isSize at this; omega
  have n8 : n ≤ 8 := by have := hf.1; unfold isSize at this; omega
  have hc : (fitsB x (8 * n) true || fitsB x (8 * n) false) = true := by rw [c1, Bool.or_false, hT]
  have HC := Lib.hid hc
  clear hc
  go_enter Try.func5, Try.ntmps5
  go_wp2_with fail
  refine (small_any _).mono ?_; rintro e w' ⟨rfl, hB⟩
  go_wp2_with fail
  refine (get_yes _ _ _ _ _ hs hf).mono ?_; rintro e w' ⟨rfl, rfl⟩
  go_wp2_with fail
  refine (put_any _ _ _ _ hs hf _ HC.out _).mono ?_; rintro e w2 ⟨rfl, hB2⟩
  go_wp2_with fail
  refine (fits_any _ _ _ _).mono ?_; rintro e w' ⟨rfl, rfl⟩
  go_wp2_with fail
  refine (fits_any _ _ _ _).mono ?_; rintro e w' ⟨rfl, rfl⟩
  go_wp2_with fail
  refine (fits_any _ _ _ _).mono ?_; rintro e w' ⟨rfl, rfl⟩
  go_wp2_with fail
  go_ret
  exact ⟨rfl, hB.trans (hB2.mono hB.size)⟩

set_option maxHeartbeats 1000000 in
theorem some_trued (s : ByteArray) (p n x : Int) (hs : s.size ≤ 9223372036854775807) (hf : isField s p n) (hL : ¬ 1000 < (s.size : Int)) (c1 : fitsB x (8 * n) false = false) (hT : fitsB x (8 * n) true = false) (w : World) :
    Calls Try.prog 5 #[.string s, .int .i64 p, .int .i64 n, .int .i64 x, .bool true] w fun e w' => e = .returned (.bool true) ∧ Below w.heap.size w w' := by
  have hr := val_range n true (bytesAt s p n) hf.1 (bytesAt_length s p n hf)
  simp only [Bool.true_or, Bool.false_or] at hr
  have n1 : 1 ≤ n := by have := hf.1; unfold isSize at this; omega
  have n8 : n ≤ 8 := by have := hf.1; unfold isSize at this; omega
  have hc : (fitsB x (8 * n) true || fitsB x (8 * n) false) = false := by rw [c1, Bool.or_false, hT]
  have HC := Lib.hid hc
  clear hc
  go_enter Try.func5, Try.ntmps5
  go_wp2_with fail
  refine (small_any _).mono ?_; rintro e w' ⟨rfl, hB⟩
  go_wp2_with fail
  refine (get_yes _ _ _ _ _ hs hf).mono ?_; rintro e w' ⟨rfl, rfl⟩
  go_wp2_with fail
  refine (put_any _ _ _ _ hs hf _ HC.out _).mono ?_; rintro e w2 ⟨rfl, hB2⟩
  go_wp2_with fail
  refine (fits_any _ _ _ _).mono ?_; rintro e w' ⟨rfl, rfl⟩
  go_wp2_with fail
  refine (fits_any _ _ _ _).mono ?_; rintro e w' ⟨rfl, rfl⟩
  go_wp2_with fail
  refine (fits_any _ _ _ _).mono ?_; rintro e w' ⟨rfl, rfl⟩
  go_wp2_with fail
  go_ret
  exact ⟨rfl, hB.trans (hB2.mono hB.size)⟩

set_option maxHeartbeats 1000000 in
theorem some_falsea (s : ByteArray) (p n x : Int) (hs : s.size ≤ 9223372036854775807) (hf : isField s p n) (hL : ¬ 1000 < (s.size : Int)) (c1 : fitsB x (8 * n) false = true) (w : World) :
    Calls Try.prog 5 #[.string s, .int .i64 p, .int .i64 n, .int .i64 x, .bool false] w fun e w' => e = .returned (.bool true) ∧ Below w.heap.size w w' := by
  have hr := val_range n false (bytesAt s p n) hf.1 (bytesAt_length s p n hf)
  simp only [Bool.true_or, Bool.false_or] at hr
  have n1 : 1 ≤ n := by have := hf.1; unfold isSize at this; omega
  have n8 : n ≤ 8 := by have := hf.1; unfold isSize at this; omega
  have hc : (fitsB x (8 * n) true || fitsB x (8 * n) false) = true := by rw [c1, Bool.or_true]
  have HC := Lib.hid hc
  clear hc
  go_enter Try.func5, Try.ntmps5
  go_wp2_with fail
  refine (small_any _).mono ?_; rintro e w' ⟨rfl, hB⟩
  go_wp2_with fail
  refine (get_yes _ _ _ _ _ hs hf).mono ?_; rintro e w' ⟨rfl, rfl⟩
  go_wp2_with fail
  refine (put_any _ _ _ _ hs hf _ HC.out _).mono ?_; rintro e w2 ⟨rfl, hB2⟩
  go_wp2_with fail
  refine (fits_any _ _ _ _).mono ?_; rintro e w' ⟨rfl, rfl⟩
  go_wp2_with fail
  refine (fits_any _ _ _ _).mono ?_; rintro e w' ⟨rfl, rfl⟩
  go_wp2_with fail
  go_ret
  exact ⟨rfl, hB.trans (hB2.mono hB.size)⟩

set_option maxHeartbeats 1000000 in
theorem some_falseb (s : ByteArray) (p n x : Int) (hs : s.size ≤ 9223372036854775807) (hf : isField s p n) (hL : ¬ 1000 < (s.size : Int)) (c1 : fitsB x (8 * n) false = false) (hT : fitsB x (8 * n) true = true) (w : World) :
    Calls Try.prog 5 #[.string s, .int .i64 p, .int .i64 n, .int .i64 x, .bool false] w fun e w' => e = .returned (.bool true) ∧ Below w.heap.size w w' := by
  have hr := val_range n false (bytesAt s p n) hf.1 (bytesAt_length s p n hf)
  simp only [Bool.true_or, Bool.false_or] at hr
  have n1 : 1 ≤ n := by have := hf.1; unfold isSize at this; omega
  have n8 : n ≤ 8 := by have := hf.1; unfold isSize at this; omega
  have hc : (fitsB x (8 * n) true || fitsB x (8 * n) false) = true := by rw [c1, Bool.or_false, hT]
  have HC := Lib.hid hc
  clear hc
  go_enter Try.func5, Try.ntmps5
  go_wp2_with fail
  refine (small_any _).mono ?_; rintro e w' ⟨rfl, hB⟩
  go_wp2_with fail
  refine (get_yes _ _ _ _ _ hs hf).mono ?_; rintro e w' ⟨rfl, rfl⟩
  go_wp2_with fail
  refine (put_any _ _ _ _ hs hf _ HC.out _).mono ?_; rintro e w2 ⟨rfl, hB2⟩
  go_wp2_with fail
  refine (fits_any _ _ _ _).mono ?_; rintro e w' ⟨rfl, rfl⟩
  go_wp2_with fail
  refine (fits_any _ _ _ _).mono ?_; rintro e w' ⟨rfl, rfl⟩
  go_wp2_with fail
  refine (fits_any _ _ _ _).mono ?_; rintro e w' ⟨rfl, rfl⟩
  go_wp2_with fail
  go_ret
  exact ⟨rfl, hB.trans (hB2.mono hB.size)⟩

set_option maxHeartbeats 1000000 in
theorem some_falsed (s : ByteArray) (p n x : Int) (hs : s.size ≤ 9223372036854775807) (hf : isField s p n) (hL : ¬ 1000 < (s.size : Int)) (c1 : fitsB x (8 * n) false = false) (hT : fitsB x (8 * n) true = false) (w : World) :
    Calls Try.prog 5 #[.string s, .int .i64 p, .int .i64 n, .int .i64 x, .bool false] w fun e w' => e = .returned (.bool true) ∧ Below w.heap.size w w' := by
  have hr := val_range n false (bytesAt s p n) hf.1 (bytesAt_length s p n hf)
  simp only [Bool.true_or, Bool.false_or] at hr
  have n1 : 1 ≤ n := by have := hf.1; unfold isSize at this; omega
  have n8 : n ≤ 8 := by have := hf.1; unfold isSize at this; omega
  have hc : (fitsB x (8 * n) true || fitsB x (8 * n) false) = false := by rw [c1, Bool.or_false, hT]
  have HC := Lib.hid hc
  clear hc
  go_enter Try.func5, Try.ntmps5
  go_wp2_with fail
  refine (small_any _).mono ?_; rintro e w' ⟨rfl, hB⟩
  go_wp2_with fail
  refine (get_yes _ _ _ _ _ hs hf).mono ?_; rintro e w' ⟨rfl, rfl⟩
  go_wp2_with fail
  refine (put_any _ _ _ _ hs hf _ HC.out _).mono ?_; rintro e w2 ⟨rfl, hB2⟩
  go_wp2_with fail
  refine (fits_any _ _ _ _).mono ?_; rintro e w' ⟨rfl, rfl⟩
  go_wp2_with fail
  refine (fits_any _ _ _ _).mono ?_; rintro e w' ⟨rfl, rfl⟩
  go_wp2_with fail
  refine (fits_any _ _ _ _).mono ?_; rintro e w' ⟨rfl, rfl⟩
  go_wp2_with fail
  go_ret
  exact ⟨rfl, hB.trans (hB2.mono hB.size)⟩

theorem walk (a0 : ByteArray) (a1 a2 a3 : Int) (a4 : Bool) (w0 : a0.size ≤ maxLen) (w1 : (Lit.int .i64 a1).wf = true) (w2 : (Lit.int .i64 a2).wf = true) (w3 : (Lit.int .i64 a3).wf = true) (w : World) :
    Calls Try.prog 5 #[.string a0, .int .i64 a1, .int .i64 a2, .int .i64 a3, .bool a4] w fun e w' => e = .returned (.bool true) ∧ Below w.heap.size w w' := by
  have hs : a0.size ≤ 9223372036854775807 := by unfold maxLen at w0; omega
  by_cases hf : isField a0 a1 a2
  · by_cases hL : 1000 < (a0.size : Int)
    · exact long a0 a1 a2 a3 a4 hs hf hL w
    · cases c1 : fitsB a3 (8 * a2) false <;> cases a4
      · cases c2 : fitsB a3 (8 * a2) true
        · exact some_falsed a0 a1 a2 a3 hs hf hL c1 c2 w
        · exact some_falseb a0 a1 a2 a3 hs hf hL c1 c2 w
      · cases c2 : fitsB a3 (8 * a2) true
        · exact some_trued a0 a1 a2 a3 hs hf hL c1 c2 w
        · exact some_trueb a0 a1 a2 a3 hs hf hL c1 c2 w
      · exact some_falsea a0 a1 a2 a3 hs hf hL c1 w
      · exact some_truea a0 a1 a2 a3 hs hf hL c1 w
  · exact nofield a0 a1 a2 a3 a4 hs hf w
end Go.Proofs.Ytfhdgnacgnkamaa.wordRanges
