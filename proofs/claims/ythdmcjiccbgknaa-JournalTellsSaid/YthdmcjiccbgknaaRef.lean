/-
  Contracts of the reference of package word: each of its functions answers what the function of package word answers.
-/
import Derived.Test.YthdmcjiccbgknaaChecked
import Derived.Test.YthdmcjiccbgknaaPure
import Derived.WalkKit
import Derived.WalkLawsBesides
import Derived.WalkSpells
import Derived.LoopTactic
import Derived.Lib.Hide
namespace Go.Proofs.Ythdmcjiccbgknaa.W1
set_option linter.unusedVariables false
set_option linter.unusedSimpArgs false
open Go.RowKit

theorem field_yes (s : ByteArray) (p n : Int) (w : World) (hs : s.size ≤ 9223372036854775807) (hf : isField s p n) :
    Calls Try.prog 91 #[.string s, .int .i64 p, .int .i64 n] w fun e w' => e = .returned (.bool true) ∧ w = w' := by
  obtain ⟨hn, h0, h1⟩ := hf
  rcases hn with rfl | rfl | rfl | rfl
  all_goals
    go_enter Try.func91, Try.ntmps91
    go_wp2
    go_ret
    exact ⟨rfl, rfl⟩

theorem field_no (s : ByteArray) (p n : Int) (w : World) (hs : s.size ≤ 9223372036854775807) (hf : ¬ isField s p n) :
    Calls Try.prog 91 #[.string s, .int .i64 p, .int .i64 n] w fun e w' => e = .returned (.bool false) ∧ w = w' := by
  by_cases hn : isSize n
  · by_cases h0 : 0 ≤ p
    · have h1 : decide (p ≤ s.size - n) = false := by simp only [decide_eq_false_iff_not]; exact fun h => hf ⟨hn, h0, h⟩
      rcases hn with rfl | rfl | rfl | rfl
      all_goals
        go_enter Try.func91, Try.ntmps91
        go_wp2
        go_ret
        exact ⟨rfl, rfl⟩
    · have hd : decide (0 ≤ p) = false := by simpa using h0
      rcases hn with rfl | rfl | rfl | rfl
      all_goals
        go_enter Try.func91, Try.ntmps91
        go_wp2
        go_ret
        exact ⟨rfl, rfl⟩
  · have h1 : (n == 1) = false := by simp; intro h; exact hn (.inl h)
    have h2 : (n == 2) = false := by simp; intro h; exact hn (.inr (.inl h))
    have h3 : (n == 4) = false := by simp; intro h; exact hn (.inr (.inr (.inl h)))
    have h4 : (n == 8) = false := by simp; intro h; exact hn (.inr (.inr (.inr h)))
    go_enter Try.func91, Try.ntmps91
    go_wp2
    go_ret
    exact ⟨rfl, rfl⟩

theorem rget_no (s : ByteArray) (p n : Int) (g : Bool) (w : World) (hs : s.size ≤ 9223372036854775807) (hf : ¬ isField s p n) :
    Calls Try.prog 70 #[.string s, .int .i64 p, .int .i64 n, .bool g] w fun e w' => e = .returned (.tuple #[.int .i64 0, .bool false]) ∧ w = w' := by
  go_enter Try.func70, Try.ntmps70
  go_wp2_with (go_at_call 91; refine (field_no _ _ _ _ hs hf).mono ?_; rintro e w' ⟨rfl, rfl⟩)
  go_ret2
  exact ⟨rfl, rfl⟩

theorem rget_round (s : ByteArray) (p : Int) (sz k : Nat) (h0 : 0 ≤ p) (hk : k < sz) (h1 : p + sz ≤ s.size) (hb : (p + (k : Int)).toNat < s.size) :
    leV ((bytesAt s p sz).drop k) = (s[(p + (k : Int)).toNat]'hb).toNat + 256 * leV ((bytesAt s p sz).drop (k + 1)) := by
  obtain ⟨q, rfl⟩ := Int.eq_ofNat_of_zero_le h0
  have hl : k < (bytesAt s (q : Int) (sz : Int)).length := by simp [bytesAt]; omega
  rw [List.drop_eq_getElem_cons hl, leV]
  have hq : ((q : Int) + (k : Int)).toNat = q + k := by omega
  congr 2
  simp only [bytesAt, List.getElem_take, List.getElem_drop, Int.toNat_natCast, hq]
  rfl

set_option maxHeartbeats 1000000 in
theorem rget_yes (s : ByteArray) (p n : Int) (g : Bool) (w : World) (hs : s.size ≤ 9223372036854775807) (hf : isField s p n) :
    Calls Try.prog 70 #[.string s, .int .i64 p, .int .i64 n, .bool g] w fun e w' => e = .returned (.tuple #[.int .i64 (valOf n g (bytesAt s p n)), .bool true]) ∧ w = w' := by
  have hlen := bytesAt_length s p n hf
  have hlt := leV_lt (bytesAt s p n)
  rw [hlen] at hlt
  have HV : Hid (leV (bytesAt s p n) < 256 ^ n.toNat) := hlt
  have HL := Lib.hid hlen
  clear hlen hlt
  obtain ⟨sz, rfl⟩ : ∃ sz : Nat, n = (sz : Int) := ⟨n.toNat, by obtain ⟨hn, _⟩ := hf; rcases hn with rfl | rfl | rfl | rfl <;> rfl⟩
  have h8 : sz ≤ 8 := by obtain ⟨hn, _⟩ := hf; unfold isSize at hn; omega
  go_enter Try.func70, Try.ntmps70
  go_wp2_with (go_at_call 91; refine (field_yes _ _ _ _ hs hf).mono ?_; rintro e w' ⟨rfl, rfl⟩)
  go_loop [10, 11] (fun u j => ∃ k : Nat, k ≤ sz ∧ j = .int .i64 ((k : Int) - 1) ∧ u = .int .u64 ((leV ((bytesAt s p sz).drop k) : Nat) : Int)) (fun _ j => (intOf j + 1).toNat)
  case atStart => exact ⟨sz, by omega, rfl, by rw [List.drop_eq_nil_of_le (by rw [HL.out]; simp)]; rfl⟩
  case round =>
    obtain ⟨k, hk, rfl, rfl⟩ := hrel
    obtain ⟨hn, h0, h1⟩ := hf
    have HN : Hid (isSize sz) := hn
    clear hn
    by_cases hlt : 0 < k
    · obtain ⟨m, rfl⟩ : ∃ m, k = m + 1 := ⟨k - 1, by omega⟩
      have hbt : (p + (m : Int)).toNat < s.size := by omega
      have hr := rget_round s p sz m h0 (by omega) (by omega) hbt
      have HR := Lib.hid hr
      have hbd := leV_lt ((bytesAt s p sz).drop (m + 1))
      have hbd2 : leV ((bytesAt s p sz).drop (m + 1)) < 256 ^ 7 := Nat.lt_of_lt_of_le hbd (Nat.pow_le_pow_right (by decide) (by rw [List.length_drop, HL.out]; omega))
      have hbd3 : leV ((bytesAt s p sz).drop (m + 1)) ≤ 72057594037927935 := by omega
      clear hr hbd hbd2
      have e1 : ((m + 1 : Nat) : Int) - 1 = m := by omega
      rw [e1]
      clear e1
      go_wp2
      go_round
      case rel => exact ⟨m, by omega, rfl, by
        rw [HR.out]
        have hbb := (s[(p + (m : Int)).toNat]'hbt).toNat_lt
        simp only [IntKind.wrap_u64]
        exact congrArg (Value.int .u64) (by omega)⟩
      case measure => simp [intOf]
    · obtain rfl : k = 0 := by omega
      rw [List.drop_zero]
      have HF := HV.out
      generalize hV : leV (bytesAt s p sz) = V at *
      have HVE := Lib.hid hV
      clear hV
      have h5 : V ≤ 18446744073709551615 := by
        have h6 : 256 ^ ((sz : Int)).toNat ≤ 256 ^ 8 := Nat.pow_le_pow_right (by decide) (by omega)
        omega
      clear HF
      cases g
      · have hv := val_unsigned _ _ HN.out (by rw [HVE.out]; exact HV.out)
        rw [HVE.out] at hv
        have Hv := Lib.hid hv
        clear hv
        go_wp2
        go_ret2
        exact ⟨by rw [← Hv.out]; rfl, rfl⟩
      · by_cases h9 : sz = 8
        · subst h9
          have hv := val_signed8 (bytesAt s p 8) true
          rw [show leV (bytesAt s p 8) = V from HVE.out] at hv
          have Hv := Lib.hid hv
          clear hv
          go_wp2
          go_ret2
          exact ⟨by show _ = Ending.returned (.tuple #[.int .i64 (valOf 8 true (bytesAt s p 8)), .bool true]); rw [← Hv.out]; rfl, rfl⟩
        · have h9' : ((sz : Int) == 8) = false := by simp; omega
          have h4 : (sz : Int) = 1 ∨ (sz : Int) = 2 ∨ (sz : Int) = 4 := by rcases HN.out with h | h | h | h <;> omega
          have H4 := Lib.hid h4
          have h5' : V ≤ 4294967295 := by
            have h6 : 256 ^ ((sz : Int)).toNat ≤ 256 ^ 4 := Nat.pow_le_pow_right (by decide) (by omega)
            have := HV.out
            omega
          have h44 : sz ≤ 4 := by omega
          clear h4 h5
          go_wp2
          go_loop [12, 13] (fun u j => ∃ (k : Nat) (W : Int), k ≤ sz ∧ j = .int .i64 k ∧ u = .int .i64 W ∧ W = (256 ^ k : Nat)) (fun _ j => sz - (intOf j).toNat)
          case atStart => exact ⟨0, _, by omega, rfl, rfl, rfl⟩
          case round =>
            obtain ⟨k, W, hk, rfl, rfl, hW⟩ := hrel
            by_cases hlt : k < sz
            · have hW1 : 0 ≤ W := by rw [hW]; exact Int.natCast_nonneg _
              have hW2 : W ≤ 16777216 := by
                have h6 : 256 ^ k ≤ 256 ^ 3 := Nat.pow_le_pow_right (by decide) (by omega)
                rw [hW]; exact Int.ofNat_le.2 h6
              have HW := Lib.hid hW
              clear hW
              go_wp2
              go_round
              case rel => exact ⟨k + 1, _, by omega, by go_num, rfl, by rw [HW.out, Nat.pow_succ]; omega⟩
              case measure => simp [intOf]; omega
            · obtain rfl : k = sz := by omega
              have hW1 : 0 ≤ W := by rw [hW]; exact Int.natCast_nonneg _
              have hW2 : W ≤ 4294967296 := by
                have h6 : 256 ^ k ≤ 256 ^ 4 := Nat.pow_le_pow_right (by decide) (by omega)
                rw [hW]; exact Int.ofNat_le.2 h6
              have hn := val_neg (k : Int) (bytesAt s p k) H4.out (by rw [HVE.out]; exact HV.out)
              have hp := val_pos (k : Int) (bytesAt s p k) H4.out (by rw [HVE.out]; exact HV.out)
              rw [HVE.out, Int.toNat_natCast, ← hW] at hn hp
              have Hn := Lib.hid hn
              have Hp := Lib.hid hp
              clear hW hn hp
              by_cases hc : W / 2 ≤ V
              · have hq := Lib.hid (Hn.out hc)
                clear Hn Hp
                go_wp2
                go_ret2
                exact ⟨by rw [← hq.out]; rfl, rfl⟩
              · have hq := Lib.hid (Hp.out hc)
                clear Hn Hp
                go_wp2
                go_ret2
                exact ⟨by rw [← hq.out]; rfl, rfl⟩
end Go.Proofs.Ythdmcjiccbgknaa.W1
