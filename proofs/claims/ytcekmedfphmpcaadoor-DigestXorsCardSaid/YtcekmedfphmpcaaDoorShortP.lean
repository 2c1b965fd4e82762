/-
  Contract of the program's Short, from that of its Sum.
-/
import Derived.Test.YtcekmedfphmpcaaDoorShortRef
namespace Go.Proofs.YtcekmedfphmpcaaDoor
set_option linter.unusedVariables false
set_option linter.unusedSimpArgs false
open Go.RowKit

theorem or_byte (m b : Nat) (hm : m < 72057594037927936) (hb : b < 256) : bits .or .u64 ((m : Int) * 256) (b : Int) = ((m * 256 + b : Nat) : Int) := by
  have := bits_or_u64_nat (m * 256) b (by omega) (by omega)
  rw [Nat.mul_comm m 256, ← Nat.two_pow_add_eq_or_of_lt (i := 8) (by omega)] at this
  rw [show ((m : Int) * 256) = ((256 * m : Nat) : Int) by omega, this]; omega

set_option maxRecDepth 100000 in
set_option maxHeartbeats 1000000 in
theorem shortP (l : List UInt8) (w : World)
    (hsum : Calls Tryd.prog 12 #[.string (bs l)] w fun e w' => e = .returned (.string (bs (sumB l))) ∧ Below w.heap.size w w') :
    Calls Tryd.prog 14 #[.string (bs l)] w fun e w' => e = .returned (.int .i64 (shortN (sumN (nl l)) : Nat)) ∧ Below w.heap.size w w' := by
  obtain ⟨d, hd⟩ : ∃ d, bs (sumB l) = d := ⟨_, rfl⟩
  have hsz : d.size = 32 := by rw [← hd, bs_size, sumB_length]
  have hget : ∀ i (h : i < d.size), d[i].toNat = lat (sumN (nl l)) i := by
    subst hd
    intro i h
    rw [bs_get, sumB_at]
  have hbe := be_lt (sumN (nl l)) (sumN_byte (nl l))
  have HBE := Lib.hid hbe; clear hbe
  have HG := Lib.hid hget; clear hget
  rw [hd] at hsum
  have HSUM := Lib.hid hsum; clear hsum hd
  go_enter Tryd.func14, Tryd.ntmps14
  go_wp2_with fail
  refine (HSUM.out).mono ?_; rintro e w2 ⟨rfl, hB2⟩
  go_wp2_with fail
  go_loop [4, 8] (fun n i => ∃ k m : Nat, k ≤ 8 ∧ i = .int .i64 k ∧ n = .int .u64 m ∧ m < 256 ^ k ∧ m = be (sumN (nl l)) k) (fun _ i => 8 - (intOf i).toNat)
  case atStart => exact ⟨0, 0, by omega, rfl, rfl, by omega, rfl⟩
  case round =>
    obtain ⟨k, m, hk, rfl, rfl, hm, hmk⟩ := hrel
    have HM := Lib.hid hmk; clear hmk
    by_cases hk8 : k < 8
    · have hkd : k < d.size := by omega
      have hb := d[k].toNat_lt
      have hnext : be (sumN (nl l)) (k + 1) = m * 256 + d[k].toNat := by rw [HG.out k hkd, HM.out]; rfl
      have hlt : m * 256 + d[k].toNat < 256 ^ (k + 1) := by
        rw [Nat.pow_succ]; omega
      have hm7 : m < 72057594037927936 := by
        have h2 : (256 : Nat) ^ k ≤ 256 ^ 7 := Nat.pow_le_pow_right (by omega) (by omega)
        omega
      have hor := or_byte m d[k].toNat hm7 hb
      have HN := Lib.hid hnext; clear hnext
      have HLT := Lib.hid hlt; clear hlt hm
      go_wp2_with fail
      go_round
      case rel => exact ⟨k + 1, m * 256 + d[k].toNat, by omega, by go_num, rfl, HLT.out, HN.out.symm⟩
      case measure => simp [intOf]; omega
    · obtain rfl : k = 8 := by omega
      have h7d : 7 < d.size := by omega
      have hb := d[7].toNat_lt
      have hm64 : m < 18446744073709551616 := hm
      have HS : Hid (shortN (sumN (nl l)) = m / 16) := by
        show _ = _
        unfold shortN
        rw [HM.out]
        show _ = (be (sumN (nl l)) 7 * 256 + lat (sumN (nl l)) 7) / 16
        omega
      clear hm
      go_wp2_with fail
      go_ret
      exact ⟨by rw [HS.out]; first | rfl | (show Ending.returned (.int .i64 (wrap64 _)) = _; rw [IntWalk.wrap64_in _ (by omega)]; rfl), hB2⟩
end Go.Proofs.YtcekmedfphmpcaaDoor
