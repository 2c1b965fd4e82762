/-
  The laws' mathematics: bytes.
-/
import Derived.Test.YtmnhnighlgpjmaaDoorII
namespace Go.Proofs.YtmnhnighlgpjmaaDoor
set_option linter.unusedVariables false
set_option linter.unusedSimpArgs false
open Go.RowKit

theorem byte_back (b : UInt8) : UInt8.ofNat (Int.toNat ((b.toNat : Nat) : Int)) = b := by simp
/-- The bytes of what stands at an offset are those that stand there. -/
theorem enc_at (s : ByteArray) (p : Nat) (h : p + 8 ≤ s.size) : encS (insAt s p) = s.extract p (p + 8) := by
  apply W1.ba_ext
  rw [W1.extract_list]
  show encL (insAt s p) = _
  unfold encL insAt
  simp only [byte_back]
  have hf : W1.isField s ((p : Int) + 4) 4 := ⟨.inr (.inr (.inl rfl)), by omega, by omega⟩
  have hb := W1.bytesOf_val 4 true (W1.bytesAt s ((p : Int) + 4) 4) (.inr (.inr (.inl rfl))) (W1.bytesAt_length s _ _ hf)
  rw [show (4 : Int).toNat = 4 from rfl] at hb
  rw [hb]
  unfold W1.bytesAt
  rw [show ((p : Int) + 4).toNat = p + 4 by omega, show (4 : Int).toNat = 4 from rfl]
  have hlen : s.data.toList.length = s.size := by simp
  apply List.ext_getElem?
  intro j
  by_cases hj : j < 8
  · rw [List.getElem?_drop, List.getElem?_take, if_pos (by omega)]
    have hg : ∀ k, k < s.data.toList.length → s.data.toList[k]? = some (s.data.toList.getD k 0) := fun k hk => by
      rw [List.getD_eq_getElem?_getD, List.getElem?_eq_getElem hk]; rfl
    rw [hg (p + j) (by omega)]
    have hc : j = 0 ∨ j = 1 ∨ j = 2 ∨ j = 3 ∨ 4 ≤ j := by omega
    rcases hc with rfl | rfl | rfl | rfl | h4
    · rfl
    · rfl
    · rfl
    · rfl
    · rw [List.getElem?_append_right (by simpa using h4)]
      simp only [List.length_cons, List.length_nil]
      rw [List.getElem?_take, if_pos (by omega), List.getElem?_drop, show p + 4 + (j - (0 + 1 + 1 + 1 + 1)) = p + j by omega, hg (p + j) (by omega)]
  · rw [List.getElem?_eq_none (by simp; omega), List.getElem?_eq_none (by simp; omega)]

theorem int_bd' {a : Int} (h : (Lit.int .i64 a).wf = true) : -9223372036854775808 ≤ a ∧ a ≤ 9223372036854775807 := W1.int_bd h
end Go.Proofs.YtmnhnighlgpjmaaDoor
