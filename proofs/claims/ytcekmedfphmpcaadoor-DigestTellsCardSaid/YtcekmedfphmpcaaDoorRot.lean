/-
  Contracts of math/bits.RotateLeft64 and of the program's lane.
-/
import Derived.Test.YtcekmedfphmpcaaDoorKecRef
namespace Go.Proofs.YtcekmedfphmpcaaDoor
set_option linter.unusedVariables false
set_option linter.unusedSimpArgs false
open Go.RowKit

theorem bits_and63 (n : Nat) (hn : n < 64) : bits .and .u64 (n : Int) 63 = (n : Int) := by
  have : ∀ n, n < 64 → bits .and .u64 ((n : Nat) : Int) 63 = ((n : Nat) : Int) := by decide +kernel
  exact this n hn

set_option maxRecDepth 100000 in
theorem rotP (x n : Nat) (w : World) (hx : x < 18446744073709551616) (hn : n < 64) :
    Calls Tryd.prog 39 #[.int .u64 (x : Nat), .int .i64 (n : Nat)] w fun e w' => e = .returned (.int .u64 (rol x n : Nat)) ∧ w = w' := by
  have h63 := bits_and63 n hn
  by_cases h0 : n = 0
  · have HR : Hid (rol x n = x) := by show _ = _; unfold rol; rw [if_pos h0]
    have e0 : x / 18446744073709551616 = 0 := by omega
    have hor := bits_or_u64_nat x 0 hx (by omega)
    rw [Nat.or_zero] at hor
    subst h0
    clear h63
    have h63 : bits .and .u64 0 63 = 0 := by decide +kernel
    show Calls Tryd.prog 39 #[.int .u64 (x : Nat), .int .i64 0] w _
    have hor : bits .or .u64 (x : Int) 0 = (x : Int) := hor
    have e1 : (x : Int) / 18446744073709551616 = 0 := by omega
    go_enter Tryd.func39, Tryd.ntmps39
    go_wp2_with fail
    go_ret
    exact ⟨by rw [HR.out]; rfl, rfl⟩
  · have HR := Lib.hid (rol_u64 x n hx hn h0)
    clear h0
    have q1 : (0 : Int) ≤ n := by omega
    have q2 : ((n : Int)).toNat = n := by omega
    have q3 : min n 64 = n := by omega
    have q4 : (64 - (n : Int)).toNat = 64 - n := by omega
    have q5 : min (64 - n) 64 = 64 - n := by omega
    have q6 : (0 : Int) ≤ 64 - n := by omega
    go_enter Tryd.func39, Tryd.ntmps39
    go_wp2_with fail
    go_ret
    refine ⟨?_, rfl⟩
    rw [← HR.out]
    rfl
end Go.Proofs.YtcekmedfphmpcaaDoor
