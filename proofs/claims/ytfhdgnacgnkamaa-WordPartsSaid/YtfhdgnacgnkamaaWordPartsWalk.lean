/-
  The walk of the law WordParts.
-/
import Derived.Test.YtfhdgnacgnkamaaSmall
import Derived.Test.YtfhdgnacgnkamaaPureB
namespace Go.Proofs.Ytfhdgnacgnkamaa.wordParts
set_option linter.unusedVariables false
set_option linter.unusedSimpArgs false
open Go.RowKit

set_option maxHeartbeats 1000000 in
theorem nofield (s : ByteArray) (p : Int) (hs : s.size ≤ 9223372036854775807) (hf : ¬ isField s p 8) (w : World) :
    Calls Try.prog 6 #[.string s, .int .i64 p] w fun e w' => e = .returned (.bool true) ∧ Below w.heap.size w w' := by
  by_cases hL : 1000 < (s.size : Int)
  all_goals
    go_enter Try.func6, Try.ntmps6
    go_wp2_with fail
    refine (small_any _).mono ?_; rintro e w' ⟨rfl, hB⟩
    go_wp2_with fail
    refine (get_no _ _ _ _ _ hs hf).mono ?_; rintro e w' ⟨rfl, rfl⟩
    go_wp2_with fail
    go_ret
    exact ⟨rfl, hB⟩

set_option maxHeartbeats 1000000 in
theorem long (s : ByteArray) (p : Int) (hs : s.size ≤ 9223372036854775807) (hf : isField s p 8) (hL : 1000 < (s.size : Int)) (w : World) :
    Calls Try.prog 6 #[.string s, .int .i64 p] w fun e w' => e = .returned (.bool true) ∧ Below w.heap.size w w' := by
  go_enter Try.func6, Try.ntmps6
  go_wp2_with fail
  refine (small_any _).mono ?_; rintro e w' ⟨rfl, hB⟩
  go_wp2_with fail
  refine (get_yes _ _ _ _ _ hs hf).mono ?_; rintro e w' ⟨rfl, rfl⟩
  go_wp2_with fail
  go_ret
  exact ⟨rfl, hB⟩

set_option maxHeartbeats 2000000 in
theorem parts (s : ByteArray) (p : Int) (hs : s.size ≤ 9223372036854775807) (hf : isField s p 8) (hL : ¬ 1000 < (s.size : Int)) (w : World) :
    Calls Try.prog 6 #[.string s, .int .i64 p] w fun e w' => e = .returned (.bool true) ∧ Below w.heap.size w w' := by
  have h0 : 0 ≤ p := hf.2.1
  have h1 : p ≤ s.size - 8 := hf.2.2
  have f4 : isField s p 4 := by unfold isField isSize at *; omega
  have f44 : isField s (p + 4) 4 := by unfold isField isSize at *; omega
  have f2 : isField s p 2 := by unfold isField isSize at *; omega
  have f22 : isField s (p + 2) 2 := by unfold isField isSize at *; omega
  have f1 : isField s p 1 := by unfold isField isSize at *; omega
  have f11 : isField s (p + 1) 1 := by unfold isField isSize at *; omega
  have e8 := parts8 s p hf
  have e4 := parts4 s p f4
  have e2 := parts2 s p f2
  have b44 := val_high_bd _ (bytesAt_length s (p + 4) 4 f44)
  have b4 := val_low_bd 4 _ (by decide) (bytesAt_length s p 4 f4)
  have b2 := val_low_bd 2 _ (by decide) (bytesAt_length s p 2 f2)
  have b22 := val_low_bd 2 _ (by decide) (bytesAt_length s (p + 2) 2 f22)
  have b1 := val_low_bd 1 _ (by decide) (bytesAt_length s p 1 f1)
  have b11 := val_low_bd 1 _ (by decide) (bytesAt_length s (p + 1) 1 f11)
  obtain ⟨N, hN⟩ : ∃ N, valOf 8 true (bytesAt s p 8) = N := ⟨_, rfl⟩
  obtain ⟨H, hH⟩ : ∃ N, valOf 4 true (bytesAt s (p + 4) 4) = N := ⟨_, rfl⟩
  obtain ⟨L, hLo⟩ : ∃ N, valOf 4 false (bytesAt s p 4) = N := ⟨_, rfl⟩
  obtain ⟨S, hS⟩ : ∃ N, valOf 2 false (bytesAt s (p + 2) 2) = N := ⟨_, rfl⟩
  obtain ⟨F, hF⟩ : ∃ N, valOf 2 false (bytesAt s p 2) = N := ⟨_, rfl⟩
  obtain ⟨Y, hY⟩ : ∃ N, valOf 1 false (bytesAt s (p + 1) 1) = N := ⟨_, rfl⟩
  obtain ⟨X, hX⟩ : ∃ N, valOf 1 false (bytesAt s p 1) = N := ⟨_, rfl⟩
  rw [hN, hH, hLo] at e8
  rw [hLo, hS, hF] at e4
  rw [hF, hY, hX] at e2
  rw [hH] at b44; rw [hLo] at b4; rw [hF] at b2; rw [hS] at b22; rw [hX] at b1; rw [hY] at b11
  have c8 : N = H * 4294967296 + L := by
    have w1 : wrap64 (H * 4294967296) = H * 4294967296 := IntWalk.wrap64_in _ (by omega)
    have w2 : wrap64 (H * 4294967296 + L) = H * 4294967296 + L := IntWalk.wrap64_in _ (by have := b4.2; simp at this; omega)
    rw [w1, w2] at e8
    rcases e8 with h | h <;> exact h
  have t8 : (N == H * 4294967296 + L) = true := by simp [c8]
  have t4 : (L == S * 65536 + F) = true := by simp [e4]
  have t2 : (F == Y * 256 + X) = true := by simp [e2]
  have HN := Lib.hid hN
  have HH := Lib.hid hH
  have HL := Lib.hid hLo
  have HS := Lib.hid hS
  have HF := Lib.hid hF
  have HY := Lib.hid hY
  have HX := Lib.hid hX
  have k44 : -2147483648 ≤ H := b44.1
  have k44' : H < 2147483648 := b44.2
  have k4 : 0 ≤ L := b4.1
  have k4' : L < 4294967296 := b4.2
  have k2 : 0 ≤ F := b2.1
  have k2' : F < 65536 := b2.2
  have k22 : 0 ≤ S := b22.1
  have k22' : S < 65536 := b22.2
  have k1 : 0 ≤ X := b1.1
  have k1' : X < 256 := b1.2
  have k11 : 0 ≤ Y := b11.1
  have k11' : Y < 256 := b11.2
  clear e8 e4 e2 b44 b4 b2 b22 b1 b11 hN hH hLo hS hF hY hX c8
  go_enter Try.func6, Try.ntmps6
  go_wp2_with fail
  refine (small_any _).mono ?_; rintro e w' ⟨rfl, hB⟩
  go_wp2_with fail
  refine (get_yes _ _ _ _ _ hs hf).mono ?_; rintro e w' ⟨rfl, rfl⟩
  rw [HN.out]
  go_wp2_with fail
  refine (get_yes _ _ _ _ _ hs f4).mono ?_; rintro e w' ⟨rfl, rfl⟩
  rw [HL.out]
  go_wp2_with fail
  refine (get_yes _ _ _ _ _ hs f44).mono ?_; rintro e w' ⟨rfl, rfl⟩
  rw [HH.out]
  go_wp2_with fail
  refine (get_yes _ _ _ _ _ hs f2).mono ?_; rintro e w' ⟨rfl, rfl⟩
  rw [HF.out]
  go_wp2_with fail
  refine (get_yes _ _ _ _ _ hs f22).mono ?_; rintro e w' ⟨rfl, rfl⟩
  rw [HS.out]
  go_wp2_with fail
  refine (get_yes _ _ _ _ _ hs f1).mono ?_; rintro e w' ⟨rfl, rfl⟩
  rw [HX.out]
  go_wp2_with fail
  refine (get_yes _ _ _ _ _ hs f11).mono ?_; rintro e w' ⟨rfl, rfl⟩
  rw [HY.out]
  go_wp2_with fail
  go_ret
  exact ⟨rfl, hB⟩

theorem walk (a0 : ByteArray) (a1 : Int) (w0 : a0.size ≤ maxLen) (w1 : (Lit.int .i64 a1).wf = true) (w : World) :
    Calls Try.prog 6 #[.string a0, .int .i64 a1] w fun e w' => e = .returned (.bool true) ∧ Below w.heap.size w w' := by
  have hs : a0.size ≤ 9223372036854775807 := by unfold maxLen at w0; omega
  by_cases hf : isField a0 a1 8
  · by_cases hL : 1000 < (a0.size : Int)
    · exact long a0 a1 hs hf hL w
    · exact parts a0 a1 hs hf hL w
  · exact nofield a0 a1 hs hf w
end Go.Proofs.Ytfhdgnacgnkamaa.wordParts
