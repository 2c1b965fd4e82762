/-
  What settle does to the counts.
-/
import Derived.Test.YtobpolmlblpmjaaHeapE
namespace Go.Proofs.Ytobpolmlblpmjaa
set_option linter.unusedVariables false
set_option linter.unusedSimpArgs false

theorem snocInd {P : List Nat → Prop} (X : List Nat) (nil : P []) (snoc : ∀ X x, P X → P (X ++ [x])) : P X := by
  have key : ∀ Y : List Nat, P Y.reverse := by
    intro Y
    induction Y with
    | nil => exact nil
    | cons a Y ih => rw [List.reverse_cons]; exact snoc _ _ ih
  have := key X.reverse
  rwa [List.reverse_reverse] at this
def stepS (h : Nat) (s : List Nat × List Nat) (x : Nat) : List Nat × List Nat :=
  if x = h then s else (s.1.set x (s.1.getD x 0 - 1), if s.1.getD x 0 - 1 = 0 then s.2 ++ [x] else s.2)
def foldS (h : Nat) (o X : List Nat) : List Nat × List Nat := X.foldl (stepS h) (o, [])
theorem foldS_nil (h : Nat) (o : List Nat) : foldS h o [] = (o, []) := rfl
theorem foldS_snoc (h : Nat) (o X : List Nat) (x : Nat) : foldS h o (X ++ [x]) = stepS h (foldS h o X) x := by
  unfold foldS; rw [List.foldl_append]; rfl
theorem foldS_skip (h : Nat) (o X : List Nat) : foldS h o (X ++ [h]) = foldS h o X := by
  rw [foldS_snoc]; unfold stepS; rw [if_pos rfl]
theorem foldS_len (h : Nat) (o X : List Nat) : (foldS h o X).1.length = o.length := by
  induction X using snocInd with
  | nil => rfl
  | snoc X x ih =>
    rw [foldS_snoc]; unfold stepS
    split
    · exact ih
    · simp only [List.length_set]; exact ih
theorem foldS_get (h : Nat) (o X : List Nat) (y : Nat) : (foldS h o X).1.getD y 0 = if y = h then o.getD y 0 else o.getD y 0 - X.count y := by
  induction X using snocInd with
  | nil => rw [foldS_nil]; simp
  | snoc X x ih =>
    rw [foldS_snoc, List.count_append, List.count_singleton]; unfold stepS
    by_cases e : x = h
    · rw [if_pos e, ih]
      by_cases e2 : y = h
      · rw [if_pos e2, if_pos e2]
      · rw [if_neg e2, if_neg e2, if_neg (by intro h2; apply e2; rw [← e]; have := h2; simp at this; exact this.symm)]; omega
    · rw [if_neg e]
      simp only
      by_cases e3 : x = y
      · subst e3
        by_cases hl : x < o.length
        · rw [getD_set_self _ _ _ _ (by rw [foldS_len]; exact hl), ih, if_neg e, if_neg e]; simp; omega
        · rw [List.getD_eq_getElem?_getD, List.getElem?_eq_none (by rw [List.length_set, foldS_len]; omega), if_neg e, List.getD_eq_getElem?_getD, List.getElem?_eq_none (by omega)]; simp
      · rw [getD_set_ne _ _ _ _ _ e3, ih]
        have : (x == y) = false := by simp [e3]
        simp [this]
structure FreeOk (h : Nat) (o X F : List Nat) : Prop where
  iff : ∀ x, x ∈ F ↔ x ≠ h ∧ x ∈ X ∧ o.getD x 0 ≤ X.count x
  nd : F.Nodup
theorem foldS_free (h : Nat) (o : List Nat) : ∀ X : List Nat, (∀ x, x ≠ h → X.count x ≤ o.getD x 0) → FreeOk h o X (foldS h o X).2 := by
  intro X
  induction X using snocInd with
  | nil => intro _; exact ⟨by simp [foldS_nil], by simp [foldS_nil]⟩
  | snoc X x ih =>
    intro hc
    have hc' : ∀ y, y ≠ h → X.count y ≤ o.getD y 0 := fun y hy => by
      have := hc y hy
      rw [List.count_append] at this; omega
    have I := ih hc'
    by_cases e : x = h
    · subst e
      rw [foldS_skip]
      refine ⟨fun y => ?_, I.nd⟩
      rw [I.iff, List.mem_append, List.mem_singleton, List.count_append, List.count_singleton]
      constructor
      · rintro ⟨h1, h2, h3⟩; exact ⟨h1, .inl h2, by omega⟩
      · rintro ⟨h1, h2, h3⟩
        rcases h2 with h2 | h2
        · refine ⟨h1, h2, ?_⟩
          rw [if_neg (by intro h5; exact h1 (by have := h5; simp at this; exact this.symm))] at h3; omega
        · exact absurd h2 h1
    · have hcx := hc x e
      rw [List.count_append, List.count_singleton, if_pos (by simp)] at hcx
      rw [foldS_snoc]
      unfold stepS
      rw [if_neg e, foldS_get, if_neg e]
      simp only
      by_cases hz : o.getD x 0 - X.count x - 1 = 0
      · rw [if_pos hz]
        have hnx : x ∉ (foldS h o X).2 := fun hx => by have := ((I.iff x).1 hx).2.2; omega
        refine ⟨fun y => ?_, ?_⟩
        · rw [List.mem_append, List.mem_singleton, I.iff, List.mem_append, List.mem_singleton, List.count_append, List.count_singleton]
          by_cases e3 : y = x
          · subst e3
            rw [if_pos (by simp)]
            exact ⟨fun _ => ⟨e, .inr rfl, by omega⟩, fun _ => .inr rfl⟩
          · rw [if_neg (by intro h5; exact e3 (by have := h5; simp at this; exact this.symm))]
            constructor
            · rintro (⟨h1, h2, h3⟩ | h4)
              · exact ⟨h1, .inl h2, by omega⟩
              · exact absurd h4 e3
            · rintro ⟨h1, h2, h3⟩
              rcases h2 with h2 | h2
              · exact .inl ⟨h1, h2, by omega⟩
              · exact absurd h2 e3
        · rw [List.nodup_append]
          refine ⟨I.nd, by simp, fun a ha b hb e4 => ?_⟩
          rw [List.mem_singleton] at hb
          subst hb; subst e4
          exact hnx ha
      · rw [if_neg hz]
        refine ⟨fun y => ?_, I.nd⟩
        rw [I.iff, List.mem_append, List.mem_singleton, List.count_append, List.count_singleton]
        by_cases e3 : y = x
        · subst e3
          rw [if_pos (by simp)]
          constructor
          · rintro ⟨h1, h2, h3⟩; omega
          · rintro ⟨h1, h2, h3⟩; omega
        · rw [if_neg (by intro h5; exact e3 (by have := h5; simp at this; exact this.symm))]
          constructor
          · rintro ⟨h1, h2, h3⟩
            exact ⟨h1, .inl h2, by omega⟩
          · rintro ⟨h1, h2, h3⟩
            rcases h2 with h2 | h2
            · exact ⟨h1, h2, by omega⟩
            · exact absurd h2 e3
end Go.Proofs.Ytobpolmlblpmjaa
