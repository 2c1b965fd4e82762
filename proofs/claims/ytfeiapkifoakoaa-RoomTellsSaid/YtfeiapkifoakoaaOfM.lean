/-
  The reference's Of as mathematics: from one beginning or end to the next.
-/
import Derived.Test.YtfeiapkifoakoaaEnds
import Derived.Test.YtfeiapkifoakoaaPush
import Derived.Test.YtfeiapkifoakoaaBs
namespace Go.Proofs.Ytfeiapkifoakoaa
set_option linter.unusedVariables false
set_option linter.unusedSimpArgs false

/-- The addresses that are wanted. -/
def selP (b : Bool) (l : List Sp) (s : Sp) (a : Int) : Prop := if b = true then inn l a ∨ s.has a else inn l a ∧ ¬ s.has a
/-- E holds all beginnings and ends of l and s, ascending. -/
structure AllEnds (l : List Sp) (s : Sp) (E : List Int) : Prop where
  asc : asc E
  mem : ∀ x ∈ l ++ [s], x.p ∈ E ∧ x.e ∈ E
  sub : ∀ y ∈ E, ∃ x ∈ l ++ [s], y = x.p ∨ y = x.e
theorem AllEnds.of {l : List Sp} {s : Sp} {E : List Int} (h : EndsAt (l ++ [s]) (2 * (l ++ [s]).length) E) : AllEnds l s E := by
  obtain ⟨h1, h2, _⟩ := h
  refine ⟨h1, fun x hx => ?_, fun y hy => ?_⟩
  · obtain ⟨i, hi, rfl⟩ := List.mem_iff_getElem.1 hx
    constructor
    · refine (h2 _).2 ⟨2 * i, by omega, ?_⟩
      unfold ev
      rw [if_pos (by omega), show 2 * i / 2 = i by omega, gt_get _ i hi]
    · refine (h2 _).2 ⟨2 * i + 1, by omega, ?_⟩
      unfold ev
      rw [if_neg (by omega), show (2 * i + 1) / 2 = i by omega, gt_get _ i hi]
  · obtain ⟨i, hi, rfl⟩ := (h2 y).1 hy
    have hj : i / 2 < (l ++ [s]).length := by omega
    refine ⟨gt (l ++ [s]) (i / 2), by rw [gt_get _ _ hj]; exact List.getElem_mem hj, ?_⟩
    unfold ev
    split
    · exact .inl rfl
    · exact .inr rfl
theorem asc_lt {E : List Int} (h : asc E) {i j : Nat} (hj : j < E.length) (hij : i < j) : E[i]'(by omega) < E[j] := List.pairwise_iff_getElem.1 h i j (by omega) hj hij
/-- Between two of them nothing changes. -/
theorem AllEnds.flat {l : List Sp} {s : Sp} {E : List Int} (h : AllEnds l s E) {i : Nat} (hi : i + 1 < E.length) {a : Int} (h1 : E[i] ≤ a) (h2 : a < E[i + 1]) {x : Sp} (hx : x ∈ l ++ [s]) : x.has a ↔ x.has E[i] := by
  have hc : ∀ y ∈ E, y ≤ E[i] ∨ E[i + 1] ≤ y := fun y hy => by
    obtain ⟨k, hk, rfl⟩ := List.mem_iff_getElem.1 hy
    rcases Nat.lt_trichotomy k i with h3 | h3 | h3
    · exact .inl (Int.le_of_lt (asc_lt h.asc (by omega) h3))
    · subst h3; exact .inl (Int.le_refl _)
    · rcases Nat.lt_or_eq_of_le (show i + 1 ≤ k from h3) with h4 | h4
      · exact .inr (Int.le_of_lt (asc_lt h.asc hk h4))
      · subst h4; exact .inr (Int.le_refl _)
  have hp := hc _ (h.mem x hx).1
  have he := hc _ (h.mem x hx).2
  unfold Sp.has
  omega
theorem AllEnds.sel {l : List Sp} {s : Sp} {E : List Int} (h : AllEnds l s E) (b : Bool) {i : Nat} (hi : i + 1 < E.length) {a : Int} (h1 : E[i] ≤ a) (h2 : a < E[i + 1]) : selP b l s a ↔ selP b l s E[i] := by
  have hl : inn l a ↔ inn l E[i] := by
    constructor
    · rintro ⟨x, hx, hh⟩; exact ⟨x, hx, (h.flat hi h1 h2 (by simp [hx])).1 hh⟩
    · rintro ⟨x, hx, hh⟩; exact ⟨x, hx, (h.flat hi h1 h2 (by simp [hx])).2 hh⟩
  have hs := h.flat hi h1 h2 (x := s) (by simp)
  unfold selP
  rw [hl, hs]
/-- What is wanted lies from the first of them on, and below the last one. -/
theorem AllEnds.bound {l : List Sp} {s : Sp} {E : List Int} (h : AllEnds l s E) {b : Bool} {a : Int} (hs : selP b l s a) : ∃ h0 : 0 < E.length, E[0] ≤ a ∧ a < E[E.length - 1] := by
  have hx : ∃ x ∈ l ++ [s], x.has a := by
    unfold selP at hs
    split at hs
    · rcases hs with ⟨x, hx, hh⟩ | hh
      · exact ⟨x, by simp [hx], hh⟩
      · exact ⟨s, by simp, hh⟩
    · obtain ⟨⟨x, hx, hh⟩, _⟩ := hs
      exact ⟨x, by simp [hx], hh⟩
  obtain ⟨x, hx, h1, h2⟩ := hx
  obtain ⟨hp, he⟩ := h.mem x hx
  obtain ⟨i, hi, hpi⟩ := List.mem_iff_getElem.1 hp
  obtain ⟨j, hj, hej⟩ := List.mem_iff_getElem.1 he
  refine ⟨by omega, ?_, ?_⟩
  · rcases Nat.eq_zero_or_pos i with h3 | h3
    · subst h3; omega
    · have := asc_lt h.asc hi h3; omega
  · rcases Nat.lt_or_eq_of_le (show j ≤ E.length - 1 by omega) with h3 | h3
    · have := asc_lt h.asc (show E.length - 1 < E.length by omega) h3; omega
    · subst h3; omega
/-- What has been collected before number i. -/
structure Coll (b : Bool) (l : List Sp) (s : Sp) (E : List Int) (i : Nat) (O : List Sp) : Prop where
  right : right O
  mem : ∀ a, inn O a ↔ selP b l s a ∧ ∃ h : i < E.length, a < E[i]
  len : O.length ≤ i
theorem Coll.zero {b : Bool} {l : List Sp} {s : Sp} {E : List Int} (h : AllEnds l s E) : Coll b l s E 0 [] :=
  ⟨right_nil, fun a => ⟨fun h => absurd h (inn_nil a), fun ⟨h1, h2, h3⟩ => by obtain ⟨h4, h5, _⟩ := h.bound h1; omega⟩, Nat.le_refl _⟩
theorem Coll.skip {b : Bool} {l : List Sp} {s : Sp} {E : List Int} {i : Nat} {O : List Sp} (h : AllEnds l s E) (hc : Coll b l s E i O) (hi : i + 1 < E.length) (hn : ¬ selP b l s E[i]) : Coll b l s E (i + 1) O := by
  refine ⟨hc.right, fun a => ?_, by have := hc.len; omega⟩
  rw [hc.mem a]
  have hlt := asc_lt h.asc hi (Nat.lt_succ_self i)
  constructor
  · rintro ⟨h1, h2, h3⟩; exact ⟨h1, hi, by omega⟩
  · rintro ⟨h1, _, h3⟩
    refine ⟨h1, by omega, ?_⟩
    rcases Int.lt_or_le a E[i] with h4 | h4
    · exact h4
    · exact absurd ((h.sel b hi h4 h3).1 h1) hn
/-- The spans collected end at number i or before. -/
theorem Coll.before {b : Bool} {l : List Sp} {s : Sp} {E : List Int} {i : Nat} {O : List Sp} (hc : Coll b l s E i O) : ∀ x ∈ O, ∃ h : i < E.length, x.e ≤ E[i] := fun x hx => by
  obtain ⟨h1, h2⟩ := right_ok hc.right x hx
  obtain ⟨_, h3, h4⟩ := (hc.mem (x.e - 1)).1 ⟨x, hx, by unfold Sp.e; omega, by omega⟩
  exact ⟨h3, by omega⟩
theorem Coll.ne {b : Bool} {l : List Sp} {s : Sp} {E : List Int} {i : Nat} {O : List Sp} {x : Sp} (hc : Coll b l s E i (O ++ [x])) (hi : i < E.length) (hx : x.e ≠ E[i]) : ∀ y ∈ O ++ [x], y.e ≠ E[i] := fun y hy => by
  rcases List.mem_append.1 hy with h1 | h1
  · obtain ⟨k, hk, rfl⟩ := List.mem_iff_getElem.1 h1
    have h5 := right_lt hc.right k O.length hk (by simp)
    rw [gt_get _ k (by simp; omega), gt_get _ O.length (by simp)] at h5
    have h6 : O[k].e < x.p := by simpa [List.getElem_append_left, hk] using h5
    obtain ⟨_, h7⟩ := hc.before x (by simp)
    have h8 := (right_ok hc.right x (by simp)).2
    unfold Sp.e at *; omega
  · rw [List.mem_singleton.1 h1]; exact hx
theorem ends_ok {l : List Sp} {s : Sp} {E : List Int} (h : AllEnds l s E) (hr : Go.Proofs.Ytfeiapkifoakoaa.right l) (hs : s.ok) : ∀ y ∈ E, 0 ≤ y ∧ y ≤ 1099511627776 := fun y hy => by
  obtain ⟨x, hx, h1⟩ := h.sub y hy
  have hok : x.ok := by
    rcases List.mem_append.1 hx with h2 | h2
    · exact (right_ok hr x h2).1
    · rw [List.mem_singleton.1 h2]; exact hs
  unfold Sp.ok at hok
  unfold Sp.e at h1
  omega
theorem Coll.push {b : Bool} {l : List Sp} {s : Sp} {E : List Int} {i : Nat} {O : List Sp} (h : AllEnds l s E) (hr : Go.Proofs.Ytfeiapkifoakoaa.right l) (hs : s.ok) (hc : Coll b l s E i O) (hi : i + 1 < E.length) (hn : selP b l s E[i]) (hne : ∀ x ∈ O, x.e ≠ E[i]) : Coll b l s E (i + 1) (O ++ [⟨E[i], E[i + 1] - E[i]⟩]) := by
  have hlt := asc_lt h.asc hi (Nat.lt_succ_self i)
  have o1 := ends_ok h hr hs E[i] (List.getElem_mem _)
  have o2 := ends_ok h hr hs E[i + 1] (List.getElem_mem _)
  refine ⟨right_append hc.right ((right_cons _ _).2 ⟨by unfold Sp.ok; simp only; omega, by simp only; omega, fun y hy => by simp at hy, right_nil⟩) fun x hx y hy => ?_, fun a => ?_, by have := hc.len; simp; omega⟩
  · rw [List.mem_singleton.1 hy]
    obtain ⟨_, h3⟩ := hc.before x hx
    have := hne x hx
    simp only; omega
  · rw [inn_append, hc.mem a]
    have e : inn [(⟨E[i], E[i + 1] - E[i]⟩ : Sp)] a ↔ E[i] ≤ a ∧ a < E[i + 1] := by
      rw [inn_cons]
      constructor
      · rintro (h1 | h1)
        · obtain ⟨h2, h3⟩ := h1; unfold Sp.e at h3; simp only at h2 h3; omega
        · exact absurd h1 (inn_nil a)
      · rintro ⟨h1, h2⟩; exact .inl ⟨h1, by unfold Sp.e; simp only; omega⟩
    rw [e]
    constructor
    · rintro (⟨h1, _, h3⟩ | ⟨h1, h2⟩)
      · exact ⟨h1, hi, by omega⟩
      · exact ⟨(h.sel b hi h1 h2).2 hn, hi, h2⟩
    · rintro ⟨h1, _, h3⟩
      rcases Int.lt_or_le a E[i] with h4 | h4
      · exact .inl ⟨h1, by omega, h4⟩
      · exact .inr ⟨h4, h3⟩
theorem Coll.join {b : Bool} {l : List Sp} {s : Sp} {E : List Int} {i : Nat} {O : List Sp} {x : Sp} (h : AllEnds l s E) (hr : Go.Proofs.Ytfeiapkifoakoaa.right l) (hs : s.ok) (hc : Coll b l s E i (O ++ [x])) (hi : i + 1 < E.length) (hn : selP b l s E[i]) (he : x.e = E[i]) : Coll b l s E (i + 1) (O ++ [⟨x.p, E[i + 1] - x.p⟩]) := by
  have hlt := asc_lt h.asc hi (Nat.lt_succ_self i)
  have o2 := ends_ok h hr hs E[i + 1] (List.getElem_mem _)
  obtain ⟨x1, x2⟩ := right_ok hc.right x (by simp)
  have hxe : x.p + x.n = E[i] := he
  unfold Sp.ok at x1
  have hO : Go.Proofs.Ytfeiapkifoakoaa.right O := by
    have := right_take hc.right O.length
    rwa [List.take_left] at this
  have hlow : ∀ y ∈ O, y.e < x.p := fun y hy => by
    obtain ⟨k, hk, rfl⟩ := List.mem_iff_getElem.1 hy
    have h5 := right_lt hc.right k O.length hk (by simp)
    rw [gt_get _ k (by simp; omega), gt_get _ O.length (by simp)] at h5
    simpa [List.getElem_append_left, hk] using h5
  refine ⟨right_append hO ((right_cons _ _).2 ⟨by unfold Sp.ok; simp only; omega, by simp only; omega, fun y hy => by simp at hy, right_nil⟩) fun y hy z hz => ?_, fun a => ?_, by have := hc.len; simp at this ⊢; omega⟩
  · rw [List.mem_singleton.1 hz]; exact hlow y hy
  · have hm := hc.mem a
    rw [inn_append] at hm ⊢
    have e1 : inn [x] a ↔ x.p ≤ a ∧ a < E[i] := by
      rw [inn_cons, ← he]
      exact ⟨fun h => h.elim (fun h => h) (fun h => absurd h (inn_nil a)), fun h => .inl h⟩
    have e : inn [(⟨x.p, E[i + 1] - x.p⟩ : Sp)] a ↔ x.p ≤ a ∧ a < E[i + 1] := by
      rw [inn_cons]
      constructor
      · rintro (h1 | h1)
        · obtain ⟨h2, h3⟩ := h1; unfold Sp.e at h3; simp only at h2 h3; omega
        · exact absurd h1 (inn_nil a)
      · rintro ⟨h1, h2⟩; exact .inl ⟨h1, by unfold Sp.e; simp only; omega⟩
    rw [e1] at hm
    rw [e]
    constructor
    · rintro (h1 | ⟨h1, h2⟩)
      · obtain ⟨h3, _, h4⟩ := hm.1 (.inl h1); exact ⟨h3, hi, by omega⟩
      · rcases Int.lt_or_le a E[i] with h4 | h4
        · obtain ⟨h5, _, _⟩ := hm.1 (.inr ⟨h1, h4⟩); exact ⟨h5, hi, h2⟩
        · exact ⟨(h.sel b hi h4 h2).2 hn, hi, h2⟩
    · rintro ⟨h1, _, h3⟩
      rcases Int.lt_or_le a E[i] with h4 | h4
      · rcases hm.2 ⟨h1, by omega, h4⟩ with h5 | h5
        · exact .inl h5
        · exact .inr ⟨h5.1, h3⟩
      · exact .inr ⟨by omega, h3⟩
theorem Coll.done {b : Bool} {l : List Sp} {s : Sp} {E : List Int} {i : Nat} {O : List Sp} (h : AllEnds l s E) (hr : Go.Proofs.Ytfeiapkifoakoaa.right l) (hs : s.ok) (hc : Coll b l s E i O) (hi : i + 1 = E.length) : O = if b = true then addL l s else cutL l s := by
  have hm : ∀ a, inn O a ↔ selP b l s a := fun a => by
    rw [hc.mem a]
    constructor
    · exact fun h => h.1
    · intro h1
      obtain ⟨h2, _, h3⟩ := h.bound h1
      refine ⟨h1, by omega, ?_⟩
      have e : E.length - 1 = i := by omega
      simpa [e] using h3
  unfold selP at hm
  split
  · rename_i hb
    simp only [hb, if_true] at hm
    exact right_unique hc.right (addL_right s hr) fun a => (hm a).trans (addL_mem hr hs a).symm
  · rename_i hb
    simp only [hb, if_false] at hm
    exact right_unique hc.right (cutL_right s hr) fun a => (hm a).trans (cutL_mem hr hs a).symm
end Go.Proofs.Ytfeiapkifoakoaa
