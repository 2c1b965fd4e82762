/-
  Contract of the program's Crc.
-/
import Derived.Test.YtcekmedfphmpcaaDoorCrcRef
namespace Go.Proofs.YtcekmedfphmpcaaDoor
set_option linter.unusedVariables false
set_option linter.unusedSimpArgs false
open Go.RowKit

theorem bits_xor_u32_nat (a b : Nat) (ha : a < 4294967296) (hb : b < 4294967296) : bits .xor .u32 (a : Int) (b : Int) = ((a ^^^ b : Nat) : Int) := by
  have hx : a ^^^ b < 2 ^ 32 := Nat.xor_lt_two_pow (by omega) (by omega)
  have h1 : (BitVec.ofInt 32 (a : Int)).toNat = a := by
    rw [BitVec.ofInt_natCast, BitVec.toNat_ofNat]; exact Nat.mod_eq_of_lt (by omega)
  have h2 : (BitVec.ofInt 32 (b : Int)).toNat = b := by
    rw [BitVec.ofInt_natCast, BitVec.toNat_ofNat]; exact Nat.mod_eq_of_lt (by omega)
  show IntKind.u32.wrap ((BitVec.ofInt 32 (a : Int) ^^^ BitVec.ofInt 32 (b : Int)).toNat : Int) = _
  rw [BitVec.toNat_xor, h1, h2]
  simp [IntKind.wrap, IntKind.bits, IntKind.signed]
  omega
theorem bits_and1_u32 (a : Nat) (ha : a < 4294967296) : bits .and .u32 (a : Int) 1 = ((a % 2 : Nat) : Int) := by
  have h1 : (BitVec.ofInt 32 (a : Int)).toNat = a := by
    rw [BitVec.ofInt_natCast, BitVec.toNat_ofNat]; exact Nat.mod_eq_of_lt (by omega)
  show IntKind.u32.wrap ((BitVec.ofInt 32 (a : Int) &&& BitVec.ofInt 32 1).toNat : Int) = _
  rw [BitVec.toNat_and, h1]
  have : (BitVec.ofInt 32 1).toNat = 1 := by decide
  rw [this, Nat.and_one_is_mod]
  simp [IntKind.wrap, IntKind.bits, IntKind.signed]
  omega
theorem bits_not_u32 (a : Nat) (ha : a < 4294967296) : bits .xor .u32 IntKind.u32.max (a : Int) = ((a ^^^ 4294967295 : Nat) : Int) := by
  have hm : IntKind.u32.max = ((4294967295 : Nat) : Int) := by decide
  rw [hm, bits_xor_u32_nat _ _ (by decide) ha, Nat.xor_comm]

set_option maxRecDepth 100000 in
set_option maxHeartbeats 1000000 in
theorem crcP (l : List UInt8) (w : World) (hl : l.length ≤ 1000000) :
    Calls Tryd.prog 16 #[.string (bs l)] w fun e w' => e = .returned (.int .i64 (crc l : Nat)) ∧ w = w' := by
  obtain ⟨s, hS⟩ : ∃ s, bs l = s := ⟨_, rfl⟩
  have hsz : s.size = l.length := by rw [← hS, bs_size]
  have hs' : s.size ≤ 1000000 := by omega
  have hget : ∀ k (h : k < s.size) (h' : k < l.length), s[k] = l[k] := by subst hS; exact fun k h _ => bs_get l k h
  rw [hS]
  have HG := Lib.hid hget; clear hget
  have HZ := Lib.hid hsz; clear hsz
  have HS := Lib.hid hS; clear hS
  go_enter Tryd.func16, Tryd.ntmps16
  go_wp2_with fail
  go_loop [3, 8] (fun x i => ∃ k v : Nat, k ≤ s.size ∧ i = .int .i64 k ∧ x = .int .u32 v ∧ v < 4294967296 ∧ v = reg (l.take k) 4294967295) (fun _ i => s.size - (intOf i).toNat)
  case atStart => exact ⟨0, 4294967295, by omega, rfl, rfl, by omega, rfl⟩
  case round =>
    obtain ⟨k, v, hk, rfl, rfl, hv, hvr⟩ := hrel
    have HV := Lib.hid hvr; clear hvr
    by_cases hlt : k < s.size
    · have hkl : k < l.length := by rw [← HZ.out]; exact hlt
      have hb := s[k].toNat_lt
      have hxor := bits_xor_u32_nat v s[k].toNat (by omega) (by omega)
      obtain ⟨y, hy⟩ : ∃ y, v ^^^ s[k].toNat = y := ⟨_, rfl⟩
      have hy2 : y < 4294967296 := by rw [← hy]; exact Nat.xor_lt_two_pow (n := 32) (by omega) (by omega)
      rw [hy] at hxor
      rw [HG.out k hlt hkl] at hy
      have HY := Lib.hid hy; clear hy
      go_wp2_with fail
      go_loop [3, 17] (fun x j => ∃ i u : Nat, i ≤ 8 ∧ j = .int .i64 i ∧ x = .int .u32 u ∧ u < 4294967296 ∧ u = steps i y) (fun _ j => 8 - (intOf j).toNat)
      case atStart => exact ⟨0, y, by omega, rfl, rfl, hy2, rfl⟩
      case round =>
        obtain ⟨i, u, hi, rfl, rfl, hu, hur⟩ := hrel
        have HU := Lib.hid hur; clear hur
        by_cases hi8 : i < 8
        · have HN : Hid (half u = steps (i + 1) y) := by show _ = _; rw [steps_succ, HU.out]
          have hlt2 := half_lt hu
          have hand := bits_and1_u32 u hu
          by_cases hodd : u % 2 = 1
          · rw [hodd] at hand
            have hx2 := bits_xor_u32_nat (u / 2) 2197175160 (by omega) (by omega)
            have HH : Hid (half u = u / 2 ^^^ 2197175160) := by show _ = _; unfold half; rw [if_pos hodd]
            have hx3 : bits .xor .u32 ((u : Int) / 2) 2197175160 = ((half u : Nat) : Int) := by rw [HH.out]; exact hx2
            clear hx2 hodd
            go_wp2_with fail
            go_round
            case rel => exact ⟨i + 1, half u, by omega, by go_num, rfl, hlt2, HN.out⟩
            case measure => simp [intOf]; omega
          · rw [show u % 2 = 0 by omega] at hand
            have hx2 := bits_xor_u32_nat (u / 2) 0 (by omega) (by omega)
            have HH : Hid (half u = u / 2) := by show _ = _; unfold half; rw [if_neg hodd]
            have hx3 : bits .xor .u32 ((u : Int) / 2) 0 = ((half u : Nat) : Int) := by rw [HH.out]; rw [Nat.xor_zero] at hx2; exact hx2
            clear hx2 hodd
            go_wp2_with fail
            go_round
            case rel => exact ⟨i + 1, half u, by omega, by go_num, rfl, hlt2, HN.out⟩
            case measure => simp [intOf]; omega
        · obtain rfl : i = 8 := by omega
          go_wp2_with fail
          go_round
          case rel => exact ⟨k + 1, u, by omega, by go_num, rfl, hu, by rw [take_reg l k hkl, ← HV.out, HY.out]; exact HU.out⟩
          case measure => simp [intOf]; omega
    · have HK : Hid (v = reg l 4294967295) := by
        have : k = l.length := by have := HZ.out; omega
        have h2 := HV.out
        rw [this, List.take_length] at h2
        exact h2
      have hx := bits_not_u32 v hv
      have hc32 : v ^^^ 4294967295 < 4294967296 := Nat.xor_lt_two_pow (n := 32) (by omega) (by omega)
      obtain ⟨c, hc⟩ : ∃ c, v ^^^ 4294967295 = c := ⟨_, rfl⟩
      rw [hc] at hx hc32
      have HC : Hid (crc l = c) := by show _ = _; rw [← hc, HK.out]; rfl
      clear hc
      go_wp2_with fail
      go_ret
      exact ⟨by rw [HC.out]; show Ending.returned (.int .i64 (wrap64 (c : Int))) = _; rw [IntWalk.wrap64_in _ (by omega)], rfl⟩
end Go.Proofs.YtcekmedfphmpcaaDoor
