/-
  Contracts of the program's lane and absorb.
-/
import Derived.Test.YtcekmedfphmpcaaDoorPerm
namespace Go.Proofs.YtcekmedfphmpcaaDoor
set_option linter.unusedVariables false
set_option linter.unusedSimpArgs false
open Go.RowKit

theorem le8_append (l : List Nat) (b : Nat) : le8 (l ++ [b]) = le8 l + 256 ^ l.length * b := by
  induction l with
  | nil => simp [le8]
  | cons x l ih =>
    have e : le8 (x :: l ++ [b]) = x + 256 * le8 (l ++ [b]) := rfl
    have e2 : le8 (x :: l) = x + 256 * le8 l := rfl
    rw [e, ih, e2, List.length_cons, Nat.pow_succ, Nat.mul_add, Nat.mul_comm (256 ^ l.length) 256, Nat.mul_assoc]
    omega
theorem nl_byte (l : List UInt8) : ∀ x ∈ nl l, x < 256 := fun x hx => by
  obtain ⟨c, _, rfl⟩ := List.mem_map.1 hx
  exact c.toNat_lt
theorem lane_step (l : List UInt8) (i : Nat) (h : i < l.length) : le8 ((nl l).take (i + 1)) = le8 ((nl l).take i) + 256 ^ i * l[i].toNat := by
  have h2 : i < (nl l).length := by rw [nl_length]; exact h
  rw [List.take_succ_eq_append_getElem h2, le8_append, List.length_take, Nat.min_eq_left (by omega)]
  simp [nl]
theorem take_lt (l : List UInt8) (i : Nat) (h : i ≤ l.length) : le8 ((nl l).take i) < 256 ^ i := by
  have := le8_lt ((nl l).take i) (fun x hx => nl_byte l x (List.mem_of_mem_take hx))
  rw [List.length_take, nl_length, Nat.min_eq_left h] at this
  exact this

theorem or_lane (m b i : Nat) (hm : m < 256 ^ i) (hi : i < 8) (hb : b < 256) : bits .or .u64 (m : Int) (IntKind.u64.wrap ((b : Int) * 2 ^ (8 * i))) = ((m + 256 ^ i * b : Nat) : Int) := by
  have hp : (256 : Nat) ^ i = 2 ^ (8 * i) := by rw [show (256 : Nat) = 2 ^ 8 from rfl, ← Nat.pow_mul]
  have hpi : 0 < 256 ^ i := Nat.pow_pos (by omega)
  have h7 : 256 ^ i ≤ 256 ^ 7 := Nat.pow_le_pow_right (by omega) (by omega)
  have hbi : 256 ^ i * b < 18446744073709551616 := by
    have h1 : 256 ^ i * b ≤ 256 ^ 7 * 255 := Nat.mul_le_mul h7 (by omega)
    omega
  have e1 : IntKind.u64.wrap ((b : Int) * 2 ^ (8 * i)) = ((256 ^ i * b : Nat) : Int) := by
    have : (b : Int) * 2 ^ (8 * i) = ((b * 2 ^ (8 * i) : Nat) : Int) := by norm_cast
    rw [this, u64_nat, Nat.mod_eq_of_lt (by rw [← hp, Nat.mul_comm]; exact hbi), ← hp, Nat.mul_comm]
  rw [e1, bits_or_u64_nat _ _ (by omega) hbi, Nat.or_comm, hp, ← Nat.two_pow_add_eq_or_of_lt (by rw [← hp]; exact hm)]
  omega

set_option maxRecDepth 100000 in
set_option maxHeartbeats 1000000 in
theorem laneP (l : List UInt8) (w : World) (h8 : 8 ≤ l.length) (hl : l.length ≤ 1000000) :
    Calls Tryd.prog 31 #[.string (bs l)] w fun e w' => e = .returned (.int .u64 (laneOf (nl l) 0 : Nat)) ∧ w = w' := by
  obtain ⟨s, hS⟩ : ∃ s, bs l = s := ⟨_, rfl⟩
  have hsz : s.size = l.length := by rw [← hS, bs_size]
  have hs8 : 8 ≤ s.size := by omega
  have hs6 : s.size ≤ 1000000 := by omega
  have hget : ∀ k (h : k < s.size) (h' : k < l.length), s[k] = l[k] := by subst hS; exact fun k h _ => bs_get l k h
  rw [hS]
  have HG := Lib.hid hget; clear hget
  have HZ := Lib.hid hsz; clear hsz hS
  go_enter Tryd.func31, Tryd.ntmps31
  go_wp2_with fail
  go_loop [3, 5] (fun n i => ∃ k m : Nat, k ≤ 8 ∧ i = .int .i64 k ∧ n = .int .u64 m ∧ m = le8 ((nl l).take k)) (fun _ i => 8 - (intOf i).toNat)
  case atStart => exact ⟨0, 0, by omega, rfl, rfl, rfl⟩
  case round =>
    obtain ⟨k, m, hk, rfl, rfl, hm⟩ := hrel
    by_cases hk8 : k < 8
    · have hks : k < s.size := by omega
      have hkl : k < l.length := by omega
      have hb := s[k].toNat_lt
      have hmlt : m < 256 ^ k := by rw [hm]; exact take_lt l k (by omega)
      have hor := or_lane m s[k].toNat k hmlt hk8 hb
      have HN : Hid (m + 256 ^ k * s[k].toNat = le8 ((nl l).take (k + 1))) := by show _ = _; rw [lane_step l k hkl, hm, HG.out k hks hkl]
      have HM := Lib.hid hm; clear hm hmlt
      have q1 : IntKind.i64.wrap (8 * (k : Int)) = 8 * k := IntWalk.i64_in _ (by omega)
      have q2 : (0 : Int) ≤ 8 * k := by omega
      have q4 : (8 * (k : Int)).toNat = 8 * k := by omega
      have q5 : min (8 * k) 64 = 8 * k := by omega
      have q3 : (8 * (k : Int)) ≤ 64 := by omega
      go_wp2_with fail
      go_round
      case rel => exact ⟨k + 1, m + 256 ^ k * s[k].toNat, by omega, by go_num, rfl, HN.out⟩
      case measure => simp [intOf]; omega
    · obtain rfl : k = 8 := by omega
      have HM : Hid (laneOf (nl l) 0 = m) := by show _ = _; rw [hm]; rfl
      clear hm
      go_wp2_with fail
      go_ret
      exact ⟨by rw [HM.out]; rfl, rfl⟩
end Go.Proofs.YtcekmedfphmpcaaDoor
