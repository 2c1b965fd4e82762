/-
  The counts of divide and settle, and what is open.
-/
import Derived.Test.YtobpolmlblpmjaaDivL
namespace Go.Proofs.Ytobpolmlblpmjaa
set_option linter.unusedVariables false
set_option linter.unusedSimpArgs false

theorem pairs_count (N : List (List Nat)) (v w : Nat) : (pairs N).count (v, w) = (N.getD v []).count w := by
  unfold pairs
  have key : ∀ m, ((List.range m).flatMap fun u => (N.getD u []).map fun x => (u, x)).count (v, w) = if v < m then (N.getD v []).count w else 0 := by
    intro m
    induction m with
    | zero => simp
    | succ m ih =>
      rw [List.range_succ, List.flatMap_append, List.count_append, ih]
      simp only [List.flatMap_cons, List.flatMap_nil, List.append_nil]
      by_cases e : v = m
      · subst e
        rw [if_neg (by omega), if_pos (by omega)]
        have : ∀ l : List Nat, (l.map fun x => (v, x)).count (v, w) = l.count w := by
          intro l
          induction l with
          | nil => rfl
          | cons a l ih => rw [List.map_cons, List.count_cons, List.count_cons, ih]; simp
        rw [this]; omega
      · have : ∀ l : List Nat, (l.map fun x => (m, x)).count (v, w) = 0 := by
          intro l
          rw [List.count_eq_zero]
          intro h
          obtain ⟨x, _, h2⟩ := List.mem_map.1 h
          injection h2 with h2 _
          exact e h2.symm
        rw [this]
        by_cases e2 : v < m
        · rw [if_pos e2, if_pos (by omega)]; rfl
        · rw [if_neg e2, if_neg (by omega)]
  rw [key]
  by_cases e : v < N.length
  · rw [if_pos e]
  · rw [if_neg e, List.getD_eq_getElem?_getD, List.getElem?_eq_none (by omega)]; simp
theorem pairs_perm {A : List (Nat × Nat)} {n : Nat} (hA : ∀ a ∈ A, a.1 < n ∧ a.2 < n) : (pairs (nextOf n A)).Perm A := by
  rw [List.perm_iff_count]
  rintro ⟨v, w⟩
  rw [pairs_count, nextOf_get, (srt_perm _).count_eq]
  by_cases e : v < n
  · exact addA_count n A v w e
  · rw [List.getD_eq_getElem?_getD, List.getElem?_eq_none (by rw [addA_length]; omega)]
    have : A.count (v, w) = 0 := List.count_eq_zero.2 (fun h => e (hA _ h).1)
    rw [this]; simp
theorem countP_or {α : Type} (p q r : α → Bool) (h : ∀ a, r a = (p a || q a)) (hd : ∀ a, ¬ (p a = true ∧ q a = true)) (L : List α) : L.countP r = L.countP p + L.countP q := by
  induction L with
  | nil => rfl
  | cons a L ih =>
    rw [List.countP_cons, List.countP_cons, List.countP_cons, ih, h a]
    have := hd a
    cases hp : p a <;> cases hq : q a <;> simp_all <;> omega
theorem sx_count (H : List Nat) (n : Nat) (L : List (Nat × Nat)) (x : Nat) : ∀ P : List Nat, P.Nodup → (∀ w ∈ P, w < n) → (SX H (addA n (L.map swp)) P).count x = L.countP fun a => P.contains a.2 && H.getD a.1 0 == x := by
  intro P
  induction P with
  | nil => intro _ _; simp [SX]
  | cons w P ih =>
    intro nd hn
    have nd2 := List.nodup_cons.1 nd
    have e : SX H (addA n (L.map swp)) (w :: P) = ((addA n (L.map swp)).getD w []).map (fun v => H.getD v 0) ++ SX H (addA n (L.map swp)) P := by simp [SX]
    rw [e, List.count_append, ih nd2.2 (fun y hy => hn y (by simp [hy])), addA_get n _ w (hn w (by simp))]
    have e2 : ((((L.map swp).filter (fun a => a.1 == w)).map (·.2)).map (fun v => H.getD v 0)).count x = L.countP fun a => a.2 == w && H.getD a.1 0 == x := by
      clear e ih nd nd2 hn
      induction L with
      | nil => rfl
      | cons a L ih =>
        rw [List.countP_cons, ← ih]
        simp only [List.map_cons, swp, List.filter_cons]
        by_cases h1 : a.2 = w
        · simp only [h1, beq_self_eq_true, if_true, List.map_cons, List.count_cons, Bool.true_and]
        · have : (a.2 == w) = false := by simp [h1]
          simp [this]
    rw [e2]
    refine (countP_or _ _ _ (fun a => ?_) (fun a => ?_) L).symm
    · simp only [List.contains_cons]
      cases a.2 == w <;> cases P.contains a.2 <;> simp
    · rintro ⟨h1, h2⟩
      simp only [Bool.and_eq_true, beq_iff_eq, List.contains_eq_mem, decide_eq_true_iff] at h1 h2
      exact nd2.1 (h1.1 ▸ h2.1)
theorem getD_hd (A : Arcs) (n x : Nat) (hx : x < n) : ((List.range n).map (hd A n)).getD x 0 = hd A n x := by
  rw [List.getD_eq_getElem?_getD, List.getElem?_map, List.getElem?_range hx]; rfl
theorem countP_congr' {α : Type} {p q : α → Bool} {L : List α} (h : ∀ a ∈ L, p a = q a) : L.countP p = L.countP q := List.countP_congr (fun a ha => by rw [h a ha])
/-- What divide counts is what is open at the beginning. -/
theorem openL_open {A : Arcs} {n x : Nat} (hA : ∀ a ∈ A, a.1 < n ∧ a.2 < n) (hx : x < n) : (openL ((List.range n).map (hd A n)) n (pairs (nextOf n A))).getD x 0 = openOf A n [] x := by
  rw [openL_get _ _ _ _ hx, (pairs_perm hA).countP_eq]
  unfold openOf
  refine countP_congr' (fun a ha => ?_)
  have h := hA a ha
  rw [getD_hd A n _ h.1, getD_hd A n _ h.2]; simp
/-- What settle takes away is what is no longer open. -/
theorem open_settle {A : Arcs} {n h x : Nat} {D : List Nat} (hA : ∀ a ∈ A, a.1 < n ∧ a.2 < n) (hh : h < n) (hhd : hd A n h = h) (hx : x ≠ h) (hD : ∀ y ∈ partOf A n h, y ∉ D) :
    openOf A n D x = openOf A n (D ++ partOf A n h) x + (SX ((List.range n).map (hd A n)) (addA n ((pairs (nextOf n A)).map swp)) (partOf A n h)).count x := by
  rw [sx_count _ n _ x _ ((partOf_asc A n h).imp (fun h => by omega)) (fun w hw => (mem_partOf.1 hw).1), (pairs_perm hA).countP_eq]
  unfold openOf
  have e : A.countP (fun a => (partOf A n h).contains a.2 && ((List.range n).map (hd A n)).getD a.1 0 == x) = A.countP (fun a => (partOf A n h).contains a.2 && hd A n a.1 == x) :=
    countP_congr' (fun a ha => by rw [getD_hd A n _ (hA a ha).1])
  rw [e]
  have e3 : A.countP (fun a => hd A n a.1 == x && hd A n a.2 != x && !D.contains a.2) = A.countP (fun a => (hd A n a.1 == x && hd A n a.2 != x && !(D ++ partOf A n h).contains a.2) || ((partOf A n h).contains a.2 && hd A n a.1 == x)) := by
    refine countP_congr' (fun a ha => ?_)
    have ha2 := (hA a ha).2
    by_cases hm : a.2 ∈ partOf A n h
    · have hd2 : hd A n a.2 = h := by rw [← hhd]; exact ((hd_iff ha2 hh).2 ⟨(mem_partOf.1 hm).2.2, (mem_partOf.1 hm).2.1⟩)
      have h1 : (D.contains a.2) = false := by simp; exact hD _ hm
      have h2 : ((partOf A n h).contains a.2) = true := by simp; exact hm
      have h3 : (hd A n a.2 != x) = true := by simp only [bne_iff_ne, hd2]; exact fun h => hx h.symm
      have h4 : ((D ++ partOf A n h).contains a.2) = true := by simp; exact .inr hm
      rw [h1, h2, h3, h4]; simp
    · have h2 : ((partOf A n h).contains a.2) = false := by simp; exact hm
      have h4 : ((D ++ partOf A n h).contains a.2) = D.contains a.2 := by
        rw [Bool.eq_iff_iff]; simp; exact fun h => absurd h hm
      rw [h2, h4]; simp
  rw [e3]
  refine countP_or _ _ _ (fun a => rfl) (fun a => ?_) A
  rintro ⟨h1, h2⟩
  simp only [Bool.and_eq_true, Bool.not_eq_true', List.contains_eq_mem, decide_eq_true_iff, decide_eq_false_iff_not, List.mem_append, not_or] at h1 h2
  exact h1.2.2 h2.1
end Go.Proofs.Ytobpolmlblpmjaa
