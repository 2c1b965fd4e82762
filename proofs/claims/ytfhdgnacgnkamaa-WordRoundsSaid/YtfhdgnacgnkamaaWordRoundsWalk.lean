/-
  The walk of the law WordRounds.
-/
import Derived.Test.YtfhdgnacgnkamaaSmall
namespace Go.Proofs.Ytfhdgnacgnkamaa.wordRounds
set_option linter.unusedVariables false
set_option linter.unusedSimpArgs false
open Go.RowKit

theorem int_bd {a : Int} (h : (Lit.int .i64 a).wf = true) : -9223372036854775808 ≤ a ∧ a ≤ 9223372036854775807 := by
  simp only [Lit.wf, IntKind.min, IntKind.max, IntKind.signed, IntKind.bits, Bool.and_eq_true, decide_eq_true_eq, if_true] at h
  omega

theorem down_in (n b : Int) (h : inDown n b) : downI n b = n - n % b := by unfold downI; rw [if_pos h, down_val n b h.1]
theorem down_mult (n b : Int) (h : n % b = 0) : downI n b = n := by
  unfold downI
  split
  · rename_i h2; rw [down_val n b h2.1]; omega
  · rfl
theorem up_mult (n b : Int) (h : n % b = 0) : upI n b = n := by
  unfold upI
  split
  · rename_i h2
    rw [down_val (-n) b h2.1]
    have : (-n) % b = 0 := by
      have := Int.dvd_of_emod_eq_zero h
      exact Int.emod_eq_zero_of_dvd ((Int.dvd_neg).2 this)
    omega
  · rfl
theorem down_dvd (n b : Int) (h : inDown n b) : downI n b % b = 0 := by
  unfold downI; rw [if_pos h]; exact Int.mul_emod_left _ _
theorem up_dvd (n b : Int) (h : inDown n b) : upI n b % b = 0 := by
  unfold upI; rw [if_pos h]
  have : b ∣ -((-n) / b * b) := (Int.dvd_neg).2 (Int.dvd_mul_left _ _)
  exact Int.emod_eq_zero_of_dvd this
theorem tmod_zero (n b : Int) (h : n % b = 0) : (n.tmod b != 0) = false := by
  have := Int.tmod_eq_zero_of_dvd (Int.dvd_of_emod_eq_zero h)
  simp [this]

set_option maxHeartbeats 1000000 in
theorem out (a0 a1 : Int) (b0 : -9223372036854775808 ≤ a0) (b1 : a0 ≤ 9223372036854775807) (h : ¬ inDown a0 a1) (w : World) :
    Calls Try.prog 7 #[.int .i64 a0, .int .i64 a1] w fun e w' => e = .returned (.bool true) ∧ Below w.heap.size w w' := by
  have hd : (downI a0 a1 == a0) = true := by simp [down_out a0 a1 h]
  have hu : (upI a0 a1 == a0) = true := by simp [up_out a0 a1 h]
  have hc : a0 < -1152921504606846976 ∨ (¬ a0 < -1152921504606846976 ∧ 1152921504606846976 < a0) ∨ (¬ a0 < -1152921504606846976 ∧ ¬ 1152921504606846976 < a0 ∧ a1 < 1) ∨ (¬ a0 < -1152921504606846976 ∧ ¬ 1152921504606846976 < a0 ∧ ¬ a1 < 1 ∧ 1099511627776 < a1) := by
    unfold inDown at h; omega
  rcases hc with c1 | ⟨c1, c2⟩ | ⟨c1, c2, c3⟩ | ⟨c1, c2, c3, c4⟩
  all_goals
    go_enter Try.func7, Try.ntmps7
    go_wp2_with fail
    refine (small_any _).mono ?_; rintro e w' ⟨rfl, hB⟩
    go_wp2_with fail
    refine (up_any _ _ _ b0 b1).mono ?_; rintro e w' ⟨rfl, rfl⟩
    go_wp2_with fail
    refine (down_any _ _ _).mono ?_; rintro e w' ⟨rfl, rfl⟩
    go_wp2_with fail
    go_ret
    exact ⟨rfl, hB⟩

set_option maxHeartbeats 1000000 in
theorem within (a0 a1 : Int) (h : inDown a0 a1) (w : World) :
    Calls Try.prog 7 #[.int .i64 a0, .int .i64 a1] w fun e w' => e = .returned (.bool true) ∧ Below w.heap.size w w' := by
  have d1 := down_in a0 a1 h
  have u1 := upI_down a0 a1 h
  have u2 := down_in (-a0) a1 (inDown_neg a0 a1 h)
  have m1 := tmod_zero _ _ (down_dvd a0 a1 h)
  have m2 := tmod_zero _ _ (up_dvd a0 a1 h)
  have r1 := up_mult _ _ (down_dvd a0 a1 h)
  have r2 := down_mult _ _ (up_dvd a0 a1 h)
  have e1 := Int.emod_nonneg a0 (b := a1) (by have := h.1; omega)
  have e2 := Int.emod_lt_of_pos a0 (b := a1) (by have := h.1; omega)
  have e3 := Int.emod_nonneg (-a0) (b := a1) (by have := h.1; omega)
  have e4 := Int.emod_lt_of_pos (-a0) (b := a1) (by have := h.1; omega)
  obtain ⟨h1, h2, h3, h4⟩ := h
  obtain ⟨u, hu⟩ : ∃ u, upI a0 a1 = u := ⟨_, rfl⟩
  obtain ⟨d, hd⟩ : ∃ d, downI a0 a1 = d := ⟨_, rfl⟩
  rw [hu] at u1 m2 r2
  rw [hd] at d1 m1 r1
  have q1 : d ≤ a0 := by omega
  have q2 : a0 - d < a1 := by omega
  have q3 : a0 ≤ u := by omega
  have q4 : u - a0 < a1 := by omega
  have s1 : (upI d a1 == d) = true := by simp [r1]
  have s2 : (downI u a1 == u) = true := by simp [r2]
  have HU := Lib.hid hu
  have HD := Lib.hid hd
  clear hu hd d1 u1 u2 r1 r2 e1 e2 e3 e4
  go_enter Try.func7, Try.ntmps7
  go_wp2_with fail
  refine (small_any _).mono ?_; rintro e w' ⟨rfl, hB⟩
  go_wp2_with fail
  refine (up_any _ _ _ (by omega) (by omega)).mono ?_; rintro e w' ⟨rfl, rfl⟩
  rw [HU.out]
  go_wp2_with fail
  refine (down_any _ _ _).mono ?_; rintro e w' ⟨rfl, rfl⟩
  rw [HD.out]
  go_wp2_with fail
  refine (up_any _ _ _ (by omega) (by omega)).mono ?_; rintro e w' ⟨rfl, rfl⟩
  go_wp2_with fail
  refine (down_any _ _ _).mono ?_; rintro e w' ⟨rfl, rfl⟩
  go_wp2_with fail
  go_ret
  exact ⟨rfl, hB⟩

theorem walk (a0 : Int) (a1 : Int) (w0 : (Lit.int .i64 a0).wf = true) (w1 : (Lit.int .i64 a1).wf = true) (w : World) :
    Calls Try.prog 7 #[.int .i64 a0, .int .i64 a1] w fun e w' => e = .returned (.bool true) ∧ Below w.heap.size w w' := by
  obtain ⟨b0, b1⟩ := int_bd w0
  by_cases h : inDown a0 a1
  · exact within a0 a1 h w
  · exact out a0 a1 b0 b1 h w
end Go.Proofs.Ytfhdgnacgnkamaa.wordRounds
