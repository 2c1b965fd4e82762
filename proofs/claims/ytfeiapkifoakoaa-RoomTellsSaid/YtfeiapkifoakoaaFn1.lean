/-
  Contracts of the program's valid, end, and of cmp.Compare and the closures that they serve.
-/
import Derived.Test.YtfeiapkifoakoaaRoom
namespace Go.Proofs.Ytfeiapkifoakoaa
set_option linter.unusedVariables false
set_option linter.unusedSimpArgs false
open Go.RowKit

set_option maxRecDepth 100000 in
theorem validP (s : Sp) (w : World) (hw : s.wf) :
    Calls Try.prog 23 #[spv s] w fun e w' => e = .returned (.bool (decide s.ok)) ∧ Below w.heap.size w w' := by
  obtain ⟨p, n⟩ := s
  unfold Sp.wf at hw
  obtain ⟨w1, w2, w3, w4⟩ := hw
  simp only at w1 w2 w3 w4
  unfold spv
  by_cases h1 : 0 ≤ p
  · by_cases h3 : 0 ≤ n
    · by_cases h4 : n ≤ 1099511627776 - p
      · have HD : Hid (decide (Sp.ok ⟨p, n⟩) = true) := by show _ = _; rw [decide_eq_true_iff]; exact ⟨h1, by simp only; omega, h3, h4⟩
        go_enter Try.func23, Try.ntmps23
        go_wp2_with fail
        go_ret
        exact ⟨by rw [HD.out]; rfl, below_new _ _⟩
      · have HD : Hid (decide (Sp.ok ⟨p, n⟩) = false) := by show _ = _; rw [decide_eq_false_iff_not]; exact fun h => h4 h.2.2.2
        go_enter Try.func23, Try.ntmps23
        go_wp2_with fail
        go_ret
        exact ⟨by rw [HD.out]; rfl, below_new _ _⟩
    · have HD : Hid (decide (Sp.ok ⟨p, n⟩) = false) := by show _ = _; rw [decide_eq_false_iff_not]; exact fun h => h3 h.2.2.1
      go_enter Try.func23, Try.ntmps23
      go_wp2_with fail
      go_ret
      exact ⟨by rw [HD.out]; rfl, below_new _ _⟩
  · have HD : Hid (decide (Sp.ok ⟨p, n⟩) = false) := by show _ = _; rw [decide_eq_false_iff_not]; exact fun h => h1 h.1
    go_enter Try.func23, Try.ntmps23
    go_wp2_with fail
    go_ret
    exact ⟨by rw [HD.out]; rfl, below_new _ _⟩

theorem endP (p n : Int) (w : World) (h1 : -9223372036854775808 ≤ p + n) (h2 : p + n ≤ 9223372036854775807) :
    Calls Try.prog 21 #[.agg #[.int .i64 p, .int .i64 n]] w fun e w' => e = .returned (.int .i64 (p + n)) ∧ Below w.heap.size w w' := by
  have t3 : IntKind.i64.wrap (p + n) = p + n := IntWalk.i64_in _ (by omega)
  have H := Lib.hid t3; clear t3
  go_enter Try.func21, Try.ntmps21
  go_wp2_with fail
  go_ret
  exact ⟨by first | rfl | (rw [H.out]; rfl), below_new _ _⟩

def cmpI (a b : Int) : Int := if a < b then -1 else if b < a then 1 else 0
theorem isNaNP (a : Int) (w : World) :
    Calls Try.prog 43 #[.int .i64 a] w fun e w' => e = .returned (.bool false) ∧ w = w' := by
  go_enter Try.func43, Try.ntmps43
  go_wp2_with fail
  go_ret
  exact ⟨by simp, rfl⟩
theorem compareP (a b : Int) (w : World) :
    Calls Try.prog 34 #[.int .i64 a, .int .i64 b] w fun e w' => e = .returned (.int .i64 (cmpI a b)) ∧ w = w' := by
  have HC : Hid (cmpI a b = if a < b then -1 else if b < a then 1 else 0) := rfl
  obtain ⟨c, hc⟩ : ∃ c, cmpI a b = c := ⟨_, rfl⟩
  rw [hc] at HC ⊢
  clear hc
  by_cases h1 : a < b
  · go_enter Try.func34, Try.ntmps34
    go_wp2_with ((with_reducible refine (isNaNP _ _).mono ?_); rintro e w' ⟨rfl, rfl⟩)
    go_ret
    exact ⟨by rw [HC.out, if_pos h1]; rfl, rfl⟩
  · by_cases h2 : b < a
    · go_enter Try.func34, Try.ntmps34
      go_wp2_with ((with_reducible refine (isNaNP _ _).mono ?_); rintro e w' ⟨rfl, rfl⟩)
      go_ret
      exact ⟨by rw [HC.out, if_neg (by omega), if_pos h2]; rfl, rfl⟩
    · go_enter Try.func34, Try.ntmps34
      go_wp2_with ((with_reducible refine (isNaNP _ _).mono ?_); rintro e w' ⟨rfl, rfl⟩)
      go_ret
      exact ⟨by rw [HC.out, if_neg (by omega), if_neg (by omega)]; rfl, rfl⟩

/-- touched's first order: by the ends. -/
theorem ord1P (p n a : Int) (w : World) (h1 : -9223372036854775808 ≤ p + n) (h2 : p + n ≤ 9223372036854775807) :
    Calls Try.prog 33 #[.agg #[.int .i64 p, .int .i64 n], .int .i64 a] w fun e w' => e = .returned (.int .i64 (cmpI (p + n) a)) ∧ Below w.heap.size w w' := by
  go_enter Try.func33, Try.ntmps33
  go_wp2_with fail
  refine (endP p n _ h1 h2).mono ?_; rintro e w1 ⟨rfl, b1⟩
  go_wp2_with fail
  refine (compareP _ _ _).mono ?_; rintro e w2 ⟨rfl, rfl⟩
  go_wp2_with fail
  go_ret
  exact ⟨rfl, (below_new _ _).trans (b1.mono (by simp))⟩
/-- touched's second order: by the beginnings. -/
theorem ord2P (p n a : Int) (w : World) :
    Calls Try.prog 35 #[.agg #[.int .i64 p, .int .i64 n], .int .i64 a] w fun e w' => e = .returned (.int .i64 (cmpI p a)) ∧ Below w.heap.size w w' := by
  go_enter Try.func35, Try.ntmps35
  go_wp2_with fail
  refine (compareP _ _ _).mono ?_; rintro e w2 ⟨rfl, rfl⟩
  go_wp2_with fail
  go_ret
  exact ⟨rfl, below_new _ _⟩
end Go.Proofs.Ytfeiapkifoakoaa
