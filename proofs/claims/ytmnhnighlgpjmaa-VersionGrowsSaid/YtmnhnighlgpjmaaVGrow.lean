/-
  Layer 8: a further declaration with a new name.
-/
import Derived.Test.YtmnhnighlgpjmaaVLawZ
namespace Go.Proofs.Ytmnhnighlgpjmaa
set_option linter.unusedVariables false
set_option linter.unusedSimpArgs false

/-- The name of d is new in l. -/
structure New (l : VL) (d : Vd) : Prop where
  nm : ∀ e ∈ l, e.nm ≠ d.nm
  ps : ∀ e ∈ l, d.nm ∉ e.ps
theorem New.pars {l : VL} {d : Vd} (h : New l d) {x : Str} (hx : x ≠ d.nm) : pars (l ++ [d]) x = pars l x := by
  unfold Go.Proofs.Ytmnhnighlgpjmaa.pars
  rw [parOf_append]
  cases e : parOf l x with
  | some ps => rfl
  | none =>
    have : parOf [d] x = none := by simp [parOf, Ne.symm hx]
    rw [this]; rfl
theorem New.own {l : VL} {d : Vd} (h : New l d) : Go.Proofs.Ytmnhnighlgpjmaa.pars (l ++ [d]) d.nm = d.ps := by
  unfold Go.Proofs.Ytmnhnighlgpjmaa.pars
  rw [parOf_append, parOf_none.2 h.nm]
  simp [parOf]
theorem New.no {l : VL} {d : Vd} (h : New l d) {x p : Str} (hp : p ∈ Go.Proofs.Ytmnhnighlgpjmaa.pars l x) : p ≠ d.nm := by
  obtain ⟨e, he, _, h2, _⟩ := mem_pars hp
  exact fun e2 => h.ps e he (e2 ▸ h2)
theorem New.old {l : VL} {d : Vd} (h : New l d) {v w : Str} (hv : v ≠ d.nm) : Sv l v w ↔ Sv (l ++ [d]) v w := by
  constructor
  · intro hs
    induction hs with
    | refl => exact .refl _
    | step h1 h2 ih => exact .step (by rw [h.pars hv]; exact h1) (ih (h.no h1))
  · intro hs
    induction hs with
    | refl => exact .refl _
    | step h1 h2 ih =>
      rw [h.pars hv] at h1
      exact .step h1 (ih (h.no h1))
theorem New.new {l : VL} {d : Vd} (h : New l d) {w : Str} (hw : w ≠ d.nm) : Sv (l ++ [d]) d.nm w ↔ ∃ p ∈ d.ps, p ≠ d.nm ∧ Sv l p w := by
  constructor
  · intro hs
    have key : ∀ a b, Sv (l ++ [d]) a b → a = d.nm → b ≠ d.nm → ∃ p ∈ d.ps, p ≠ d.nm ∧ Sv l p b := by
      intro a b hab
      induction hab with
      | refl => intro e hne; exact absurd e hne
      | @step v p z h1 h2 ih =>
        intro e hne
        subst e
        rw [h.own] at h1
        by_cases hp : p = d.nm
        · exact ih hp hne
        · exact ⟨p, h1, hp, (h.old hp).2 h2⟩
    exact key _ _ hs rfl hw
  · rintro ⟨p, hp, hne, hs⟩
    exact .step (by rw [h.own]; exact hp) ((h.old hne).1 hs)
noncomputable def growB (l : VL) (d : Vd) (w : Str) (ps : List Str) : Bool := ps.any fun p => decide (p ≠ d.nm) && svB l p w
theorem New.want {l : VL} {d : Vd} (h : New l d) {w : Str} (hw : w ≠ d.nm) : svB (l ++ [d]) d.nm w = growB l d w d.ps := by
  rw [Bool.eq_iff_iff, svB_iff, h.new hw]
  unfold growB
  rw [List.any_eq_true]
  simp only [Bool.and_eq_true, decide_eq_true_iff, svB_iff]
theorem New.same {l : VL} {d : Vd} (h : New l d) {v w : Str} (hv : v ≠ d.nm) : svB (l ++ [d]) v w = svB l v w := by
  rw [Bool.eq_iff_iff, svB_iff, svB_iff]; exact (h.old hv).symm
theorem growB_take (l : VL) (d : Vd) (w : Str) (ps : List Str) (j : Nat) (hj : j < ps.length) : growB l d w (ps.take (j + 1)) = (growB l d w (ps.take j) || (decide (ps[j] ≠ d.nm) && svB l ps[j] w)) := by
  unfold growB; rw [List.take_succ_eq_append_getElem hj, List.any_append]; simp
theorem fw_snoc {l : VL} {d : Vd} (h : Fw (l ++ [d])) : Fw l ∧ d.ps.length ≤ 6 ∧ d.nm.length ≤ 100 ∧ ∀ p ∈ d.ps, p.length ≤ 100 := by
  refine ⟨⟨by have := h.1; rw [List.length_append] at this; omega, fun e he => h.2 e (List.mem_append_left _ he)⟩, h.2 d (by simp)⟩
end Go.Proofs.Ytmnhnighlgpjmaa
