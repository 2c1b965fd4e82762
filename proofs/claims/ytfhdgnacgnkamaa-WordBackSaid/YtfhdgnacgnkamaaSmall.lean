/-
  The contract of the law's helper 'small': its examples have the documented answers.
-/
import Derived.Test.YtfhdgnacgnkamaaPut
namespace Go.Proofs.Ytfhdgnacgnkamaa
set_option linter.unusedVariables false
set_option linter.unusedSimpArgs false
open Go.RowKit

theorem sm_get1 (w : World) : Calls Try.prog 9 #[.string ⟨#[1, 2, 255]⟩, .int .i64 1, .int .i64 2, .bool false] w fun e w' => e = .returned (.tuple #[.int .i64 65282, .bool true]) ∧ w = w' := by
  have h := get_yes ⟨#[1, 2, 255]⟩ 1 2 false w (by decide) (by decide)
  rw [show valOf 2 false (bytesAt ⟨#[1, 2, 255]⟩ 1 2) = 65282 from by decide] at h
  exact h
theorem sm_get2 (w : World) : Calls Try.prog 9 #[.string ⟨#[1, 2, 255]⟩, .int .i64 1, .int .i64 2, .bool true] w fun e w' => e = .returned (.tuple #[.int .i64 (-254), .bool true]) ∧ w = w' := by
  have h := get_yes ⟨#[1, 2, 255]⟩ 1 2 true w (by decide) (by decide)
  rw [show valOf 2 true (bytesAt ⟨#[1, 2, 255]⟩ 1 2) = -254 from by decide] at h
  exact h
theorem sm_get3 (w : World) : Calls Try.prog 9 #[.string ⟨#[1, 2, 255]⟩, .int .i64 2, .int .i64 2, .bool true] w fun e w' => e = .returned (.tuple #[.int .i64 0, .bool false]) ∧ w = w' :=
  get_no ⟨#[1, 2, 255]⟩ 2 2 true w (by decide) (by decide)
theorem sm_put (w : World) : Calls Try.prog 11 #[.string ⟨#[1, 2, 3]⟩, .int .i64 1, .int .i64 1, .int .i64 (-1)] w fun e w' => e = .returned (.tuple #[.string ⟨#[1, 255, 3]⟩, .bool true]) ∧ Below w.heap.size w w' := by
  have h := put_yes ⟨#[1, 2, 3]⟩ 1 1 (-1) w (by decide) (by decide) (by decide)
  rw [show putS ⟨#[1, 2, 3]⟩ 1 1 (-1) = ⟨#[1, 255, 3]⟩ from by decide +kernel] at h
  exact h
theorem sm_up1 (w : World) : Calls Try.prog 15 #[.int .i64 5, .int .i64 8] w fun e w' => e = .returned (.int .i64 8) ∧ w = w' := by
  have h := up_any 5 8 w (by decide) (by decide)
  rw [show upI 5 8 = 8 from by decide] at h
  exact h
theorem sm_up2 (w : World) : Calls Try.prog 15 #[.int .i64 (-5), .int .i64 8] w fun e w' => e = .returned (.int .i64 0) ∧ w = w' := by
  have h := up_any (-5) 8 w (by decide) (by decide)
  rw [show upI (-5) 8 = 0 from by decide] at h
  exact h
theorem sm_down (w : World) : Calls Try.prog 17 #[.int .i64 (-5), .int .i64 8] w fun e w' => e = .returned (.int .i64 (-8)) ∧ w = w' := by
  have h := down_any (-5) 8 w
  rw [show downI (-5) 8 = -8 from by decide] at h
  exact h
theorem sm_pow1 (w : World) : Calls Try.prog 19 #[.int .i64 256] w fun e w' => e = .returned (.bool true) ∧ w = w' := power_any 256 w
theorem sm_pow2 (w : World) : Calls Try.prog 19 #[.int .i64 0] w fun e w' => e = .returned (.bool false) ∧ w = w' := power_any 0 w

set_option maxHeartbeats 1000000 in
theorem small_any (w : World) : Calls Try.prog 8 #[] w fun e w' => e = .returned (.bool true) ∧ Below w.heap.size w w' := by
  go_enter Try.func8, Try.ntmps8
  go_wp2_with fail
  refine (sm_get1 _).mono ?_; rintro e w' ⟨rfl, rfl⟩
  go_wp2_with fail
  refine (sm_get2 _).mono ?_; rintro e w' ⟨rfl, rfl⟩
  go_wp2_with fail
  refine (sm_get3 _).mono ?_; rintro e w' ⟨rfl, rfl⟩
  go_wp2_with fail
  refine (sm_put _).mono ?_; rintro e w' ⟨rfl, hB⟩
  go_wp2_with fail
  refine (sm_up1 _).mono ?_; rintro e w' ⟨rfl, rfl⟩
  go_wp2_with fail
  refine (sm_up2 _).mono ?_; rintro e w' ⟨rfl, rfl⟩
  go_wp2_with fail
  refine (sm_down _).mono ?_; rintro e w' ⟨rfl, rfl⟩
  go_wp2_with fail
  refine (sm_pow1 _).mono ?_; rintro e w' ⟨rfl, rfl⟩
  go_wp2_with fail
  refine (sm_pow2 _).mono ?_; rintro e w' ⟨rfl, rfl⟩
  go_wp2_with fail
  go_ret
  exact ⟨rfl, hB⟩
end Go.Proofs.Ytfhdgnacgnkamaa
