/-
  The reference of isa: what its Right tests, and what right is: plain mathematics.
-/
import Derived.Test.YtmnhnighlgpjmaaDoorJ0
namespace Go.Proofs.YtmnhnighlgpjmaaDoor
set_option linter.unusedVariables false
set_option linter.unusedSimpArgs false
open Go.RowKit

theorem opd_has : ∀ n, n < 31 → ∀ k, k < 4 → (opdL n).contains (k + 1) = hasB (opsN n) k := by decide +kernel
/-- What the reference's Right finds wrong at operand k + 1. -/
def refBad (i : Ins) (n k : Nat) : Prop := (hasB (opsN n) k = false ∧ fldN i k ≠ 0) ∨ (k < 3 ∧ (fldN i k < 0 ∨ 15 < fldN i k))
theorem ref_bad {n : Nat} {a b c m : Int} {k : Nat} (hk : k < 4) (h : refBad ⟨(n : Nat), a, b, c, m⟩ n k) : rightB ⟨(n : Nat), a, b, c, m⟩ = false := by
  refine rightB_bad _ k hk ?_
  unfold okF fieldB
  rw [show (⟨(n : Nat), a, b, c, m⟩ : Ins).op.toNat = n from rfl]
  rcases h with ⟨h1, h2⟩ | ⟨h1, h2⟩
  · rw [h1, if_neg (by decide)]
    exact beq_eq_false_iff_ne.2 h2
  · cases hh : hasB (opsN n) k
    · rw [if_neg (by decide)]
      exact beq_eq_false_iff_ne.2 (by omega)
    · rw [if_pos rfl, if_neg (by omega)]
      exact decide_eq_false (by omega)
def i32B (m : Int) : Bool := decide (-2147483648 ≤ m ∧ m ≤ 2147483647)
theorem ref_good {n : Nat} {a b c m : Int} (h1 : 1 ≤ n) (h2 : n ≤ 30) (h : ∀ k, k < 4 → ¬ refBad ⟨(n : Nat), a, b, c, m⟩ n k) : rightB ⟨(n : Nat), a, b, c, m⟩ = (i32B m && immB (n : Nat) m) := by
  rw [rightB_in _ (by show (1 : Int) ≤ n; omega) (by show (n : Int) ≤ 30; omega)]
  have hok : ∀ k, k < 3 → okF ⟨(n : Nat), a, b, c, m⟩ k = true := by
    intro k hk
    have hb := h k (by omega)
    unfold refBad at hb
    unfold okF fieldB
    rw [show (⟨(n : Nat), a, b, c, m⟩ : Ins).op.toNat = n from rfl]
    cases hh : hasB (opsN n) k
    · rw [hh] at hb
      rw [if_neg (by decide)]
      refine beq_iff_eq.2 (Decidable.byContradiction fun hc => hb (.inl ⟨rfl, hc⟩))
    · rw [if_pos rfl, if_neg (by omega)]
      refine decide_eq_true ?_
      constructor
      · exact Int.not_lt.1 fun hc => hb (.inr ⟨hk, .inl hc⟩)
      · have : ¬ 15 < fldN ⟨(n : Nat), a, b, c, m⟩ k := fun hc => hb (.inr ⟨hk, .inr hc⟩)
        omega
  have hok3 : okF ⟨(n : Nat), a, b, c, m⟩ 3 = i32B m := by
    have hb := h 3 (by omega)
    unfold refBad at hb
    unfold okF fieldB i32B
    rw [show (⟨(n : Nat), a, b, c, m⟩ : Ins).op.toNat = n from rfl]
    cases hh : hasB (opsN n) 3
    · rw [hh] at hb
      rw [if_neg (by decide)]
      have hm : fldN ⟨(n : Nat), a, b, c, m⟩ 3 = 0 := Decidable.byContradiction fun hc => hb (.inl ⟨rfl, hc⟩)
      have hm2 : m = 0 := hm
      rw [hm, hm2]; rfl
    · rw [if_pos rfl, if_pos rfl]; rfl
  rw [hok 0 (by omega), hok 1 (by omega), hok 2 (by omega), hok3]
  simp
end Go.Proofs.YtmnhnighlgpjmaaDoor
