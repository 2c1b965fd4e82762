/-
  The walk of the law WireSizes.
-/
import Derived.Test.YtebepofbngdccaaSmallW
namespace Go.Proofs.Ytebepofbngdccaa
set_option linter.unusedVariables false
set_option linter.unusedSimpArgs false
open Go.RowKit

theorem even_len (x : Nat) : (enc (2 * (x / 2))).length = (enc x).length := by
  by_cases h : x < 128
  · rw [enc_lo h, enc_lo (by omega)]; simp
  · rw [enc_hi (m := x) (by omega), enc_hi (by omega)]
    rw [show 2 * (x / 2) / 128 = x / 128 by omega]; simp
theorem half_len (q : Nat) (h : 64 ≤ q) : (enc (2 * q)).length = (enc (2 * (q / 128))).length + 1 := by
  rw [enc_hi (by omega), List.length_cons]
  have e : 2 * (q / 128) = 2 * ((2 * q / 128) / 2) := by omega
  rw [e, even_len]

/-- The facts of the bytes of a number. -/
theorem enc_byte (M k : Nat) (h : k < (bs (enc M)).size) :
    (k + 1 < (bs (enc M)).size → 128 ≤ (bs (enc M))[k].toNat) ∧ (k + 1 = (bs (enc M)).size → (bs (enc M))[k].toNat < 128 ∧ (0 < k → 0 < (bs (enc M))[k].toNat)) := by
  have hs := bs_size (enc M)
  rw [bs_get]
  obtain ⟨h1, h2⟩ := enc_at k M
  have hk : k < (enc M).length := by omega
  refine ⟨fun hlt => ?_, fun he => ?_⟩
  · obtain ⟨h3, _⟩ := h1 (by omega)
    rw [List.getElem?_eq_getElem hk] at h3
    injection h3 with h3
    rw [h3, u8_of (by omega)]; omega
  · obtain ⟨h3, h4, h5⟩ := h2 (by omega)
    rw [List.getElem?_eq_getElem hk] at h3
    injection h3 with h3
    rw [h3, u8_of (by omega)]; exact ⟨h4, h5⟩

namespace wireSizes
set_option maxRecDepth 100000 in
set_option maxHeartbeats 1000000 in
theorem walk (n : Int) (h : (Lit.int .i64 n).wf = true) (w : World) :
    Calls Try.prog 8 #[.int .i64 n] w fun e w' => e = .returned (.bool true) ∧ Below w.heap.size w w' := by
  obtain ⟨h0, h1⟩ : -9223372036854775808 ≤ n ∧ n ≤ 9223372036854775807 := by simpa [Lit.wf, IntKind.min, IntKind.max, IntKind.bits, IntKind.signed] using h
  clear h
  have hM := num0_le h0 h1
  have HN := Lib.hid (number_any n)
  obtain ⟨M, hMM⟩ : ∃ M, num0 n = M := ⟨_, rfl⟩
  rw [hMM] at hM
  have HMM := Lib.hid hMM; clear hMM
  obtain ⟨s, hS⟩ : ∃ s, bs (enc M) = s := ⟨_, rfl⟩
  have hsz : s.size = (enc M).length := by rw [← hS, bs_size]
  have hs10 : s.size ≤ 10 := by rw [hsz]; exact enc_le10 (by omega)
  have hs1 : 1 ≤ s.size := by rw [hsz]; exact enc_pos M
  have HB : Hid (∀ (k : Nat) (h : k < s.size), (k + 1 < s.size → 128 ≤ s[k].toNat) ∧ (k + 1 = s.size → s[k].toNat < 128 ∧ (0 < k → 0 < s[k].toNat))) := by
    subst hS; exact enc_byte M
  have HS := Lib.hid hS; clear hS
  have HZ := Lib.hid hsz; clear hsz
  have z2 : zig (M : Int) = 2 * M := by unfold zig; rw [if_neg (by omega)]; omega
  have z3 : zig (-(M : Int) - 1) = 2 * M + 1 := by unfold zig; rw [if_pos (by omega)]; omega
  obtain ⟨s2, hS2⟩ : ∃ s, bs (enc (zig (M : Int))) = s := ⟨_, rfl⟩
  obtain ⟨s3, hS3⟩ : ∃ s, bs (enc (zig (-(M : Int) - 1))) = s := ⟨_, rfl⟩
  have hsz2 : s2.size = (enc (2 * M)).length := by rw [← hS2, bs_size, z2]
  have hsz3 : s3.size = s2.size := by rw [hsz2, ← hS3, bs_size, z3, ← even_len (2 * M + 1), show 2 * ((2 * M + 1) / 2) = 2 * M by omega]
  have hs210 : s2.size ≤ 10 := by rw [hsz2]; exact enc_le10 (by omega)
  have hs21 : 1 ≤ s2.size := by rw [hsz2]; exact enc_pos _
  have heq : ((s3.size : Int) == (s2.size : Int)) = true := by rw [hsz3]; simp
  have hs3t : s3.size ≤ 10 := by omega
  have HS2 := Lib.hid hS2; clear hS2
  have HS3 := Lib.hid hS3; clear hS3
  have HZ2 := Lib.hid hsz2; clear hsz2 z2 z3 hsz3
  go_enter Try.func8, Try.ntmps8
  go_wp2_with fail
  refine (small_any _).mono ?_; rintro e w1 ⟨rfl, hB1⟩
  go_wp2_with fail
  refine (HN.out _ h0 h1).mono ?_; rintro e w' ⟨rfl, rfl⟩
  rw [HMM.out]
  go_wp2_with fail
  go_loop [5, 6] (fun z k => ∃ (q j : Nat), k = .int .i64 q ∧ q ≤ 9223372036854775807 ∧ z = .int .i64 j ∧ j ≤ 10 ∧ j + (enc q).length = s.size + 1) (fun _ k => (intOf k).toNat)
  case atStart => exact ⟨M, 1, rfl, hM, rfl, by omega, by rw [HZ.out]; omega⟩
  case round =>
    obtain ⟨q, j, rfl, hq, rfl, hj, hl⟩ := hrel
    by_cases hlt : 128 ≤ q
    · have hl' : j + 1 + (enc (q / 128)).length = s.size + 1 := by rw [enc_hi hlt] at hl; simp at hl; omega
      have hp := enc_pos (q / 128)
      have HL := Lib.hid hl'; clear hl hl'
      go_wp2_with fail
      go_round
      case rel => exact ⟨q / 128, j + 1, rfl, by omega, by go_num, by have := HL.out; omega, HL.out⟩
      case measure => simp [intOf]; omega
    · have hj' : j = s.size := by rw [enc_lo (by omega)] at hl; simp at hl; omega
      subst hj'
      clear hl
      go_wp2_with fail
      refine (wnum M _ hM).mono ?_; rintro e w2 ⟨rfl, hB2⟩
      rw [HS.out]
      go_wp2_with fail
      go_loop [8] (fun i => ∃ (k : Nat), k ≤ s.size ∧ i = .int .i64 k) (fun i => s.size - (intOf i).toNat)
      case atStart => exact ⟨0, by omega, rfl⟩
      case round =>
        obtain ⟨k, hk, rfl⟩ := hrel
        by_cases hlt : k < s.size
        · obtain ⟨b1, b2⟩ := HB.out k hlt
          by_cases hlast : k + 1 = s.size
          · obtain ⟨b3, b4⟩ := b2 hlast
            have hlast' : (((k : Int) + 1) == (s.size : Int)) = true := by rw [← hlast]; simp
            have b3' : (s[k].toNat : Int) < 128 := by omega
            clear b1 b2
            by_cases hz : s[k].toNat = 0
            · have hk0 : k = 0 := by omega
              have hs1' : s.size < 2 := by omega
              have HL := Lib.hid hlast; clear hlast
              have HZz := Lib.hid hz; clear hz
              have HK0 := Lib.hid hk0; clear hk0
              go_wp2_with fail
              go_round
              case rel => exact ⟨k + 1, by omega, by go_num⟩
              case measure => simp [intOf]; omega
            · have hz' : ((s[k].toNat : Int) == 0) = false := by simp; omega
              have HL := Lib.hid hlast; clear hlast
              go_wp2_with fail
              go_round
              case rel => exact ⟨k + 1, by omega, by go_num⟩
              case measure => simp [intOf]; omega
          · have b3 : 128 ≤ (s[k].toNat : Int) := by have := b1 (by omega); omega
            have hlast' : (((k : Int) + 1) == (s.size : Int)) = false := by simp; omega
            clear b1 b2
            go_wp2_with fail
            go_round
            case rel => exact ⟨k + 1, by omega, by go_num⟩
            case measure => simp [intOf]; omega
        · go_wp2_with fail
          go_loop [10, 11] (fun z k => ∃ (q j : Nat), k = .int .i64 q ∧ q ≤ 9223372036854775807 ∧ z = .int .i64 j ∧ j ≤ 10 ∧ j + (enc (2 * q)).length = s2.size + 1) (fun _ k => (intOf k).toNat)
          case atStart => exact ⟨M, 1, rfl, hM, rfl, by omega, by rw [HZ2.out]; omega⟩
          case round =>
            obtain ⟨q, j, rfl, hq, rfl, hj, hl⟩ := hrel
            by_cases hlt : 64 ≤ q
            · have hl' : j + 1 + (enc (2 * (q / 128))).length = s2.size + 1 := by rw [half_len q hlt] at hl; omega
              have hp := enc_pos (2 * (q / 128))
              have HL := Lib.hid hl'; clear hl hl'
              go_wp2_with fail
              go_round
              case rel => exact ⟨q / 128, j + 1, rfl, by omega, by go_num, by have := HL.out; omega, HL.out⟩
              case measure => simp [intOf]; omega
            · have hj' : j = s2.size := by rw [enc_lo (by omega)] at hl; simp at hl; omega
              subst hj'
              clear hl
              go_wp2_with fail
              refine (wint M _ (by omega) (by omega)).mono ?_; rintro e w3 ⟨rfl, hB3⟩
              rw [HS2.out]
              go_wp2_with fail
              refine (wint (-(M : Int) - 1) _ (by omega) (by omega)).mono ?_; rintro e w4 ⟨rfl, hB4⟩
              rw [HS3.out]
              go_wp2_with fail
              refine (wnum_neg (-(M : Int) - 1) _ (by omega)).mono ?_; rintro e w5 ⟨rfl, hB5⟩
              go_wp2_with fail
              go_ret
              have c2 := hB1.trans (hB2.mono hB1.size)
              have c3 := c2.trans (hB3.mono c2.size)
              have c4 := c3.trans (hB4.mono c3.size)
              exact ⟨by rw [show (bs []).toList.isEmpty = true from bs_empty []]; rfl, c4.trans (hB5.mono c4.size)⟩
end wireSizes
end Go.Proofs.Ytebepofbngdccaa
