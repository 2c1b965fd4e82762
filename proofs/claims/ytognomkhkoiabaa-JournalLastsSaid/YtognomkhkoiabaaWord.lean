/-
  Contracts of the functions of package word: what each of them answers, at every argument.
-/
import Derived.Test.YtognomkhkoiabaaChecked
import Derived.Test.YtognomkhkoiabaaPure
import Derived.WalkKit
import Derived.WalkLawsBesides
import Derived.WalkSpells
import Derived.LoopTactic
import Derived.Lib.Hide
namespace Go.Proofs.Ytognomkhkoiabaa.W1
set_option linter.unusedVariables false
set_option linter.unusedSimpArgs false
open Go.RowKit

theorem exists_yes (s : ByteArray) (p n : Int) (w : World) (hs : s.size ≤ 9223372036854775807) (hf : isField s p n) :
    Calls Try.prog 60 #[.string s, .int .i64 p, .int .i64 n] w fun e w' => e = .returned (.bool true) ∧ w = w' := by
  obtain ⟨hn, h0, h1⟩ := hf
  rcases hn with rfl | rfl | rfl | rfl
  all_goals
    go_enter Try.func60, Try.ntmps60
    go_wp2
    go_ret
    exact ⟨rfl, rfl⟩

theorem exists_no (s : ByteArray) (p n : Int) (w : World) (hs : s.size ≤ 9223372036854775807) (hf : ¬ isField s p n) :
    Calls Try.prog 60 #[.string s, .int .i64 p, .int .i64 n] w fun e w' => e = .returned (.bool false) ∧ w = w' := by
  by_cases hn : isSize n
  · by_cases h0 : 0 ≤ p
    · have h1 : ¬ (p ≤ s.size - n) := fun h => hf ⟨hn, h0, h⟩
      rcases hn with rfl | rfl | rfl | rfl
      all_goals
        go_enter Try.func60, Try.ntmps60
        go_wp2
        go_ret
        exact ⟨rfl, rfl⟩
    · rcases hn with rfl | rfl | rfl | rfl
      all_goals
        go_enter Try.func60, Try.ntmps60
        go_wp2
        go_ret
        exact ⟨rfl, rfl⟩
  · have h1 : (n == 1) = false := by simp; intro h; exact hn (.inl h)
    have h2 : (n == 2) = false := by simp; intro h; exact hn (.inr (.inl h))
    have h3 : (n == 4) = false := by simp; intro h; exact hn (.inr (.inr (.inl h)))
    have h4 : (n == 8) = false := by simp; intro h; exact hn (.inr (.inr (.inr h)))
    go_enter Try.func60, Try.ntmps60
    go_wp2
    go_ret
    exact ⟨rfl, rfl⟩

/-- The signed value of a field whose number is u. -/
theorem extend_any (u : Nat) (n : Int) (w : World) (hn : isSize n) (hu : u < 256 ^ n.toNat) :
    Calls Try.prog 61 #[.int .i64 (wrap64 u), .int .i64 n] w fun e w' => e = .returned (.int .i64 (sgn n u)) ∧ w = w' := by
  obtain ⟨x, hx⟩ : ∃ x : Int, x = wrap64 u := ⟨_, rfl⟩
  have hx' := hx
  rw [← hx]
  unfold wrap64 at hx'
  have H : Hid (x = wrap64 u) := hx
  have H' : Hid (x = ((u : Int) + 9223372036854775808) % 18446744073709551616 - 9223372036854775808) := hx'
  clear hx hx'
  rcases hn with rfl | rfl | rfl | rfl
  all_goals
    go_enter Try.func61, Try.ntmps61
    go_wp2
    go_ret
  · refine ⟨congrArg (fun z => Ending.returned (.int .i64 z)) ?_, rfl⟩
    have := H'.out
    simp only [sgn, if_true]
    unfold wrap64
    simp at hu
    split <;> omega
  · refine ⟨congrArg (fun z => Ending.returned (.int .i64 z)) ?_, rfl⟩
    have := H'.out
    simp only [sgn, if_true, if_neg (show ¬ ((2 : Int) = 1) by decide)]
    unfold wrap64
    simp at hu
    split <;> omega
  · refine ⟨congrArg (fun z => Ending.returned (.int .i64 z)) ?_, rfl⟩
    have := H'.out
    simp only [sgn, if_true, if_neg (show ¬ ((4 : Int) = 1) by decide), if_neg (show ¬ ((4 : Int) = 2) by decide)]
    unfold wrap64
    simp at hu
    split <;> omega
  · refine ⟨congrArg (fun z => Ending.returned (.int .i64 z)) ?_, rfl⟩
    have := H'.out
    simp only [sgn, if_neg (show ¬ ((8 : Int) = 1) by decide), if_neg (show ¬ ((8 : Int) = 2) by decide), if_neg (show ¬ ((8 : Int) = 4) by decide)]
    unfold wrap64
    omega

/-- No field: no value. -/
theorem get_no (s : ByteArray) (p n : Int) (g : Bool) (w : World) (hs : s.size ≤ 9223372036854775807) (hf : ¬ isField s p n) :
    Calls Try.prog 44 #[.string s, .int .i64 p, .int .i64 n, .bool g] w fun e w' => e = .returned (.tuple #[.int .i64 0, .bool false]) ∧ w = w' := by
  go_enter Try.func44, Try.ntmps44
  go_wp2_with (go_at_call 60; refine (exists_no _ _ _ _ hs hf).mono ?_; rintro e w' ⟨rfl, rfl⟩)
  go_ret2
  exact ⟨rfl, rfl⟩

theorem pow256 (k : Nat) : (256 : Nat) ^ k = 2 ^ (8 * k) := by rw [show (256 : Nat) = 2 ^ 8 by decide, ← Nat.pow_mul]

/-- One round: a byte is joined to what the bytes below it spell. -/
theorem get_round (s : ByteArray) (p : Int) (k : Nat) (h0 : 0 ≤ p) (hk : k ≤ 7) (h1 : p + k < s.size) (hb : (p + (k : Int)).toNat < s.size) :
    bits .or .i64 (wrap64 (leV ((s.data.toList.drop p.toNat).take k) : Nat)) (wrap64 (wrap64 (s[(p + (k : Int)).toNat]'hb).toNat * 2 ^ (8 * k))) = wrap64 (leV ((s.data.toList.drop p.toNat).take (k + 1)) : Nat) := by
  have hl : ((s.data.toList.drop p.toNat).take k).length = k := by simp; omega
  rw [bytesAt_snoc s p k h0 h1 hb, leV_snoc, hl, pow256]
  have hw : wrap64 ((s[(p + (k : Int)).toNat]'hb).toNat : Int) = ((s[(p + (k : Int)).toNat]'hb).toNat : Int) := IntWalk.wrap64_in _ (by have := (s[(p + (k : Int)).toNat]'hb).toNat_lt; omega)
  rw [hw]
  have := or_join (leV ((s.data.toList.drop p.toNat).take k)) (s[(p + (k : Int)).toNat]'hb).toNat (8 * k) (by omega) (by rw [← pow256]; have := leV_lt ((s.data.toList.drop p.toNat).take k); rwa [hl] at this)
  rw [← this]
  simp

set_option maxHeartbeats 400000 in
/-- A field: its value. -/
theorem get_yes (s : ByteArray) (p n : Int) (g : Bool) (w : World) (hs : s.size ≤ 9223372036854775807) (hf : isField s p n) :
    Calls Try.prog 44 #[.string s, .int .i64 p, .int .i64 n, .bool g] w fun e w' => e = .returned (.tuple #[.int .i64 (valOf n g (bytesAt s p n)), .bool true]) ∧ w = w' := by
  have hlen := bytesAt_length s p n hf
  have hlt := leV_lt (bytesAt s p n)
  rw [hlen] at hlt
  have HV : Hid (leV (bytesAt s p n) < 256 ^ n.toNat) := hlt
  clear hlen hlt
  go_enter Try.func44, Try.ntmps44
  go_wp2_with (go_at_call 60; refine (exists_yes _ _ _ _ hs hf).mono ?_; rintro e w' ⟨rfl, rfl⟩)
  go_loop [10, 11, 18] (fun u i j => ∃ k : Nat, (k : Int) ≤ n ∧ j = .int .i64 k ∧ u = .int .i64 (wrap64 (leV ((s.data.toList.drop p.toNat).take k) : Nat))) (fun _ _ j => n.toNat - (intOf j).toNat)
  case atStart => exact ⟨0, by obtain ⟨hn, _⟩ := hf; rcases hn with rfl | rfl | rfl | rfl <;> omega, rfl, by simp [leV, wrap64]⟩
  case round =>
    obtain ⟨k, hk, rfl, rfl⟩ := hrel
    obtain ⟨hn, h0, h1⟩ := hf
    have HN : Hid (isSize n) := hn
    have h8 : n ≤ 8 := by rcases hn with rfl | rfl | rfl | rfl <;> omega
    have h1' : 1 ≤ n := by rcases hn with rfl | rfl | rfl | rfl <;> omega
    clear hn
    by_cases hlt : (k : Int) < n
    · have hbt : (p + (k : Int)).toNat < s.size := by omega
      have hr := get_round s p k h0 (by omega) (by omega) hbt
      have HR := Lib.hid hr
      clear hr
      go_wp2
      go_round
      case rel => exact ⟨k + 1, by omega, by go_num, by rw [← HR.out]⟩
      case measure => simp [intOf]; omega
    · obtain rfl : n = k := by omega
      have hv : bytesAt s p k = (s.data.toList.drop p.toNat).take k := rfl
      have HE : Hid (bytesAt s p k = (s.data.toList.drop p.toNat).take k) := hv
      clear hv
      cases g
      · go_wp2
        go_ret2
        exact ⟨by rw [← val_unsigned _ _ HN.out HV.out]; rfl, rfl⟩
      · go_wp2_with (go_at_call 61; refine (extend_any _ _ _ HN.out HV.out).mono ?_; rintro e w' ⟨rfl, rfl⟩)
        go_ret2
        exact ⟨by rw [← val_signed]; rfl, rfl⟩

theorem fits_any (n b : Int) (g : Bool) (w : World) :
    Calls Try.prog 68 #[.int .i64 n, .int .i64 b, .bool g] w fun e w' => e = .returned (.bool (fitsB n b g)) ∧ w = w' := by
  by_cases h1 : b < 1
  · have H := Lib.hid (fitsB_out n b g (.inl h1))
    go_enter Try.func68, Try.ntmps68
    go_wp2
    go_ret
    exact ⟨by rw [H.out]; rfl, rfl⟩
  · by_cases h2 : 64 < b
    · have H := Lib.hid (fitsB_out n b g (.inr h2))
      go_enter Try.func68, Try.ntmps68
      go_wp2
      go_ret
      exact ⟨by rw [H.out]; rfl, rfl⟩
    · cases g
      · have H := Lib.hid (fitsB_uns n b (by omega) (by omega))
        by_cases h0 : 0 ≤ n
        · go_enter Try.func68, Try.ntmps68
          go_wp2
          go_ret
          exact ⟨by rw [H.out, decide_eq_true h0]; rfl, rfl⟩
        · have hd : decide (0 ≤ n) = false := by simpa using h0
          go_enter Try.func68, Try.ntmps68
          go_wp2
          go_ret
          exact ⟨by rw [H.out, hd]; rfl, rfl⟩
      · have H := Lib.hid (fitsB_sig n b (by omega) (by omega))
        go_enter Try.func68, Try.ntmps68
        go_wp2
        · have h : n / 2 ^ (b.toNat - 1) = 0 := by assumption
          go_ret
          exact ⟨by rw [H.out, h]; rfl, rfl⟩
        · go_ret
          exact ⟨by rw [H.out]; rfl, rfl⟩

end Go.Proofs.Ytognomkhkoiabaa.W1
