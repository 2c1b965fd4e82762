/-
  The walk of the law WordBack.
-/
import Derived.Test.YtfhdgnacgnkamaaSmall
import Derived.Test.YtfhdgnacgnkamaaPureB
import Derived.Deep.QuietTactic
import Derived.BigQuiet
namespace Go.Proofs.Ytfhdgnacgnkamaa.wordBack
set_option linter.unusedVariables false
set_option linter.unusedSimpArgs false
open Go.RowKit

set_option maxHeartbeats 1000000 in
theorem long (s : ByteArray) (p n x : Int) (g : Bool) (hL : 1000 < (s.size : Int)) (w : World) :
    Calls Try.prog 4 #[.string s, .int .i64 p, .int .i64 n, .int .i64 x, .bool g] w fun e w' => e = .returned (.bool true) ∧ Below w.heap.size w w' := by
  go_enter Try.func4, Try.ntmps4
  go_wp2_with fail
  refine (small_any _).mono ?_; rintro e w' ⟨rfl, hB⟩
  go_wp2_with fail
  go_ret
  exact ⟨rfl, hB⟩

set_option maxHeartbeats 1000000 in
theorem nofield (s : ByteArray) (p n x : Int) (g : Bool) (hs : s.size ≤ 9223372036854775807) (hL : ¬ 1000 < (s.size : Int)) (hf : ¬ isField s p n) (w : World) :
    Calls Try.prog 4 #[.string s, .int .i64 p, .int .i64 n, .int .i64 x, .bool g] w fun e w' => e = .returned (.bool true) ∧ Below w.heap.size w w' := by
  go_enter Try.func4, Try.ntmps4
  go_wp2_with fail
  refine (small_any _).mono ?_; rintro e w' ⟨rfl, hB⟩
  go_wp2_with fail
  refine (get_no _ _ _ _ _ hs hf).mono ?_; rintro e w' ⟨rfl, rfl⟩
  go_wp2_with fail
  refine (put_none _ _ _ _ _ hs hf).mono ?_; rintro e w2 ⟨rfl, hB2⟩
  go_wp2_with fail
  go_ret
  exact ⟨rfl, hB.trans (hB2.mono hB.size)⟩

set_option maxHeartbeats 1000000 in
theorem wide (s : ByteArray) (p n x : Int) (g : Bool) (hs : s.size ≤ 9223372036854775807) (hL : ¬ 1000 < (s.size : Int)) (hf : isField s p n) (hx : (fitsB x (8 * n) true || fitsB x (8 * n) false) = false) (w : World) :
    Calls Try.prog 4 #[.string s, .int .i64 p, .int .i64 n, .int .i64 x, .bool g] w fun e w' => e = .returned (.bool true) ∧ Below w.heap.size w w' := by
  have HS := Lib.hid (putS_same s p n g hf)
  have HF := Lib.hid (val_fits n g (bytesAt s p n) hf.1 (bytesAt_length s p n hf))
  have HX := Lib.hid hx
  clear hx
  go_enter Try.func4, Try.ntmps4
  go_wp2_with fail
  refine (small_any _).mono ?_; rintro e w' ⟨rfl, hB⟩
  go_wp2_with fail
  refine (get_yes _ _ _ _ _ hs hf).mono ?_; rintro e w' ⟨rfl, rfl⟩
  go_wp2_with fail
  refine (put_yes _ _ _ _ _ hs hf HF.out).mono ?_; rintro e w2 ⟨rfl, hB2⟩
  rw [HS.out]
  go_wp2_with fail
  refine (put_wide _ _ _ _ _ hs hf HX.out).mono ?_; rintro e w3 ⟨rfl, hB3⟩
  go_wp2_with fail
  go_ret
  exact ⟨rfl, (hB.trans (hB2.mono hB.size)).trans (hB3.mono (Nat.le_trans hB.size hB2.size))⟩

set_option maxHeartbeats 2000000 in
theorem back (s : ByteArray) (p n x : Int) (g : Bool) (hs : s.size ≤ 9223372036854775807) (hL : ¬ 1000 < (s.size : Int)) (hf : isField s p n) (h1 : -9223372036854775808 ≤ x) (h2 : x ≤ 9223372036854775807) (hx : (fitsB x (8 * n) true || fitsB x (8 * n) false) = true) (w : World) :
    Calls Try.prog 4 #[.string s, .int .i64 p, .int .i64 n, .int .i64 x, .bool g] w fun e w' => e = .returned (.bool true) ∧ Below w.heap.size w w' := by
  have HS := Lib.hid (putS_same s p n g hf)
  have HF := Lib.hid (val_fits n g (bytesAt s p n) hf.1 (bytesAt_length s p n hf))
  have HX := Lib.hid hx
  have hsz := putS_size s p n x hf
  have hf2 := putS_field s p n x hf
  have HV : Hid (valOf n (decide (x < 0)) (bytesAt (putS s p n x) p n) = x) := by rw [putS_bytes s p n x hf]; exact valOf_bytesOf n x g hf.1 h1 h2 hx
  have q0 : 0 ≤ p := hf.2.1
  have q1 : p ≤ s.size - n := hf.2.2
  have q2 : 1 ≤ n := by have := hf.1; unfold isSize at this; omega
  have q3 : n ≤ 8 := by have := hf.1; unfold isSize at this; omega
  have q4 : p ≤ s.size := by omega
  have q5 : p + n ≤ s.size := by omega
  have q6 : 0 ≤ p + n := by omega
  have q7 : IntKind.i64.wrap (p + n) = p + n := IntWalk.i64_in _ (by omega)
  have l1 := putS_low s p n x hf
  have l2 := putS_high s p n x hf
  obtain ⟨t, ht⟩ : ∃ t, putS s p n x = t := ⟨_, rfl⟩
  rw [ht] at hsz hf2 HV l1 l2
  have HT := Lib.hid ht
  have ts : t.size ≤ 9223372036854775807 := by omega
  have q4' : p ≤ t.size := by omega
  have q5' : p + n ≤ t.size := by omega
  have l2' := l2 t.size hsz
  have z1 : (t.size : Int) = s.size := by omega
  have Z := Lib.hid z1
  have zb : ((t.size : Int) != (s.size : Int)) = false := by simp [z1]
  have L1 := Lib.hid l1
  have L2 := Lib.hid l2'
  clear hx ht l1 l2 l2' z1 hsz
  go_enter Try.func4, Try.ntmps4
  go_wp2_with fail
  refine (small_any _).mono ?_; rintro e w' ⟨rfl, hB⟩
  go_wp2_with fail
  refine (get_yes _ _ _ _ _ hs hf).mono ?_; rintro e w' ⟨rfl, rfl⟩
  go_wp2_with fail
  refine (put_yes _ _ _ _ _ hs hf HF.out).mono ?_; rintro e w2 ⟨rfl, hB2⟩
  rw [HS.out]
  go_wp2_with fail
  refine (put_yes _ _ _ _ _ hs hf HX.out).mono ?_; rintro e w3 ⟨rfl, hB3⟩
  rw [HT.out]
  go_wp2_with fail
  refine (get_yes _ _ _ _ _ ts hf2).mono ?_; rintro e w' ⟨rfl, rfl⟩
  rw [HV.out]
  have hBB := Lib.hid ((hB.trans (hB2.mono hB.size)).trans (hB3.mono (Nat.le_trans hB.size hB2.size)))
  clear hB hB2 hB3
  go_wp2_with fail
  have k1 := L1.out
  have k2 := L2.out
  go_quiet (fail)
  go_wp2
  go_ret
  exact ⟨rfl, below_drewN hBB.out _⟩

theorem walk (a0 : ByteArray) (a1 a2 a3 : Int) (a4 : Bool) (w0 : a0.size ≤ maxLen) (w1 : (Lit.int .i64 a1).wf = true) (w2 : (Lit.int .i64 a2).wf = true) (w3 : (Lit.int .i64 a3).wf = true) (w : World) :
    Calls Try.prog 4 #[.string a0, .int .i64 a1, .int .i64 a2, .int .i64 a3, .bool a4] w fun e w' => e = .returned (.bool true) ∧ Below w.heap.size w w' := by
  have hs : a0.size ≤ 9223372036854775807 := by unfold maxLen at w0; omega
  obtain ⟨b1, b2⟩ := int_bd w3
  by_cases hL : 1000 < (a0.size : Int)
  · exact long a0 a1 a2 a3 a4 hL w
  · by_cases hf : isField a0 a1 a2
    · cases c : (fitsB a3 (8 * a2) true || fitsB a3 (8 * a2) false)
      · exact wide a0 a1 a2 a3 a4 hs hL hf c w
      · exact back a0 a1 a2 a3 a4 hs hL hf b1 b2 c w
    · exact nofield a0 a1 a2 a3 a4 hs hL hf w
end Go.Proofs.Ytfhdgnacgnkamaa.wordBack
