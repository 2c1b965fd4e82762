/-
  Graphs: the parts in their order.
-/
import Derived.Test.YtobpolmlblpmjaaKosa
namespace Go.Proofs.Ytobpolmlblpmjaa
set_option linter.unusedVariables false
set_option linter.unusedSimpArgs false

/-- From v arcs lead only to its own part and to what is listed. -/
def readyB (A : Arcs) (n : Nat) (D : List Nat) (v : Nat) : Bool := !D.contains v && (List.range n).all fun w => !reachB A v w || reachB A w v || D.contains w
def partsGo (A : Arcs) (n : Nat) : Nat → List Nat → List (List Nat)
  | 0, _ => []
  | k + 1, D => match (List.range n).find? (readyB A n D) with
    | none => []
    | some v => partOf A n v :: partsGo A n k (D ++ partOf A n v)
def partsOf (A : Arcs) (n : Nat) : List (List Nat) := partsGo A n n []

theorem readyB_iff (A : Arcs) (n : Nat) (D : List Nat) (v : Nat) : readyB A n D v = true ↔ v ∉ D ∧ ∀ w, w < n → RT A v w → RT A w v ∨ w ∈ D := by
  unfold readyB
  simp only [Bool.and_eq_true, Bool.not_eq_true', List.contains_eq_mem, decide_eq_false_iff_not, List.all_eq_true, List.mem_range, Bool.or_eq_true, decide_eq_true_iff]
  refine and_congr Iff.rfl ⟨fun h w hw hr => ?_, fun h w hw => ?_⟩
  · rcases h w hw with (h1 | h1) | h1
    · rw [(reachB_iff A v w).2 hr] at h1; cases h1
    · exact .inl ((reachB_iff A w v).1 h1)
    · exact .inr h1
  · by_cases hr : RT A v w
    · rcases h w hw hr with h1 | h1
      · exact .inl (.inr ((reachB_iff A w v).2 h1))
      · exact .inr h1
    · refine .inl (.inl ?_)
      cases h2 : reachB A v w
      · rfl
      · exact absurd ((reachB_iff A v w).1 h2) hr
/-- What is listed. -/
structure Listed (A : Arcs) (n : Nat) (D : List Nat) : Prop where
  lt : ∀ v ∈ D, v < n
  nd : D.Nodup
  down : ∀ v w, v ∈ D → w < n → RT A v w → w ∈ D
theorem Listed.nil (A : Arcs) (n : Nat) : Listed A n [] := ⟨by simp, by simp, by simp⟩
theorem Listed.snoc {A : Arcs} {n : Nat} {D : List Nat} {v : Nat} (h : Listed A n D) (hv : v < n) (hr : readyB A n D v = true) : Listed A n (D ++ partOf A n v) := by
  have h1 := (readyB_iff A n D v).1 hr
  refine ⟨fun x hx => ?_, ?_, fun x w hx hw he => ?_⟩
  · rcases List.mem_append.1 hx with h2 | h2
    · exact h.lt x h2
    · exact (mem_partOf.1 h2).1
  · rw [List.nodup_append]
    refine ⟨h.nd, (partOf_asc A n v).imp (fun h => by omega), fun x hx y hy e => ?_⟩
    subst e
    exact h1.1 (h.down x v hx hv (mem_partOf.1 hy).2.2)
  · rcases List.mem_append.1 hx with h2 | h2
    · exact List.mem_append_left _ (h.down x w h2 hw he)
    · have h3 := (mem_partOf.1 h2).2
      have h4 := h3.1.trans he
      rcases h1.2 w hw h4 with h5 | h5
      · exact List.mem_append_right _ (mem_partOf.2 ⟨hw, h4, h5⟩)
      · exact List.mem_append_left _ h5
theorem nodup_le : ∀ (n : Nat) (l : List Nat), l.Nodup → (∀ x ∈ l, x < n) → l.length ≤ n
  | 0, l, _, h => by
    cases l with
    | nil => simp
    | cons a l => exact absurd (h a (by simp)) (by omega)
  | n + 1, l, nd, h => by
    have := nodup_le n (l.erase n) (nd.erase n) (fun x hx => by
      have h1 := (nd.mem_erase_iff).1 hx
      have := h x h1.2
      have := h1.1
      omega)
    rw [List.length_erase] at this
    split at this <;> omega
theorem Listed.full {A : Arcs} {n : Nat} {D : List Nat} (h : Listed A n D) (hl : n ≤ D.length) {v : Nat} (hv : v < n) : v ∈ D := by
  apply Classical.byContradiction
  intro hd
  have := nodup_le n (v :: D) (List.nodup_cons.2 ⟨hd, h.nd⟩) (fun x hx => by
    rcases List.mem_cons.1 hx with rfl | h2
    · exact hv
    · exact h.lt x h2)
  simp at this
  omega
theorem Listed.more {A : Arcs} {n : Nat} {D : List Nat} (h : Listed A n D) : ∀ (k v : Nat), (List.range n).countP (fun w => reachB A v w) ≤ k → v < n → v ∉ D → ∃ w, w < n ∧ readyB A n D w = true := by
  intro k
  induction k with
  | zero =>
    intro v hk hv _
    have h1 : 0 < (List.range n).countP (fun w => reachB A v w) := List.countP_pos_iff.2 ⟨v, List.mem_range.2 hv, (reachB_iff A v v).2 .refl⟩
    omega
  | succ k ih =>
    intro v hk hv hd
    by_cases hr : readyB A n D v = true
    · exact ⟨v, hv, hr⟩
    · have h2 : ∃ w, w < n ∧ RT A v w ∧ ¬ RT A w v ∧ w ∉ D := by
        apply Classical.byContradiction
        intro h3
        apply hr
        rw [readyB_iff]
        refine ⟨hd, fun w hw h4 => ?_⟩
        apply Classical.byContradiction
        intro h5
        exact h3 ⟨w, hw, h4, fun h6 => h5 (.inl h6), fun h6 => h5 (.inr h6)⟩
      obtain ⟨w, hw, h4, h5, h6⟩ := h2
      refine ih w ?_ hw h6
      suffices H : (List.range n).countP (fun x => reachB A w x) < (List.range n).countP (fun x => reachB A v x) by omega
      have e1 : (List.range n).countP (fun x => reachB A v x) = (List.range n).countP (fun x => reachB A v x && reachB A w x) + (List.range n).countP (fun x => reachB A v x && !reachB A w x) := by
        generalize List.range n = L
        induction L with
        | nil => rfl
        | cons a L ih2 =>
          rw [List.countP_cons, List.countP_cons, List.countP_cons, ih2]
          cases reachB A v a <;> cases reachB A w a <;> simp <;> omega
      have e2 : (List.range n).countP (fun x => reachB A v x && reachB A w x) = (List.range n).countP (fun x => reachB A w x) := by
        apply List.countP_congr
        intro x _
        rw [Bool.and_eq_true, reachB_iff, reachB_iff]
        exact ⟨fun h => h.2, fun h => ⟨h4.trans h, h⟩⟩
      have e3 : 0 < (List.range n).countP (fun x => reachB A v x && !reachB A w x) := List.countP_pos_iff.2 ⟨v, List.mem_range.2 hv, by
        rw [Bool.and_eq_true, reachB_iff, Bool.not_eq_true']
        refine ⟨.refl, ?_⟩
        cases h7 : reachB A w v
        · rfl
        · exact absurd ((reachB_iff A w v).1 h7) h5⟩
      omega
theorem find_ready {A : Arcs} {n : Nat} {D : List Nat} {v : Nat} (h : (List.range n).find? (readyB A n D) = some v) : v < n ∧ readyB A n D v = true :=
  ⟨List.mem_range.1 (List.mem_of_find?_eq_some h), List.find?_some h⟩
/-- What the lists are. -/
structure PartsOk (A : Arcs) (n : Nat) (D : List Nat) (L : List (List Nat)) : Prop where
  each : ∀ p ∈ L, ∃ v, v < n ∧ p = partOf A n v
  all : ∀ v, v < n → v ∈ D ∨ ∃ p ∈ L, v ∈ p
  out : ∀ p ∈ L, ∀ x ∈ p, x ∉ D
  nd : L.Pairwise (fun p q => ∀ x ∈ p, x ∉ q)
  down : ∀ (i : Nat) (p : List Nat), L[i]? = some p → ∀ v w, v ∈ p → w < n → RT A v w → w ∈ D ∨ ∃ (j : Nat) (q : List Nat), j ≤ i ∧ L[j]? = some q ∧ w ∈ q
theorem partsGo_ok {A : Arcs} {n : Nat} : ∀ (k : Nat) (D : List Nat), Listed A n D → n ≤ D.length + k → PartsOk A n D (partsGo A n k D)
  | 0, D, h, hk => by
    unfold partsGo
    exact ⟨by simp, fun v hv => .inl (h.full (by omega) hv), by simp, by simp, by simp⟩
  | k + 1, D, h, hk => by
    unfold partsGo
    split
    · rename_i hf
      refine ⟨by simp, fun v hv => .inl ?_, by simp, by simp, by simp⟩
      apply Classical.byContradiction
      intro hd
      obtain ⟨w, hw, hr⟩ := h.more _ v (Nat.le_refl _) hv hd
      exact List.find?_eq_none.1 hf w (List.mem_range.2 hw) hr
    · rename_i v hf
      obtain ⟨hv, hr⟩ := find_ready hf
      have h1 := (readyB_iff A n D v).1 hr
      have hvp : v ∈ partOf A n v := mem_partOf.2 ⟨hv, eqv.refl A v⟩
      have hlen : 1 ≤ (partOf A n v).length := List.length_pos_of_mem hvp
      have ih := partsGo_ok k _ (h.snoc hv hr) (by rw [List.length_append]; omega)
      refine ⟨fun p hp => ?_, fun u hu => ?_, fun p hp x hx hd => ?_, ?_, fun i p hp u w hu hw hr2 => ?_⟩
      · rcases List.mem_cons.1 hp with h2 | h2
        · exact ⟨v, hv, h2⟩
        · exact ih.each p h2
      · rcases ih.all u hu with h2 | ⟨p, h2, h3⟩
        · rcases List.mem_append.1 h2 with h4 | h4
          · exact .inl h4
          · exact .inr ⟨_, List.mem_cons_self, h4⟩
        · exact .inr ⟨p, List.mem_cons_of_mem _ h2, h3⟩
      · rcases List.mem_cons.1 hp with h2 | h2
        · subst h2
          exact h1.1 (h.down x v hd hv (mem_partOf.1 hx).2.2)
        · exact ih.out p h2 x hx (List.mem_append_left _ hd)
      · rw [List.pairwise_cons]
        exact ⟨fun q hq x hx hx2 => ih.out q hq x hx2 (List.mem_append_right _ hx), ih.nd⟩
      · cases i with
        | zero =>
          simp at hp
          subst hp
          have h3 := (mem_partOf.1 hu).2
          have h4 := h3.1.trans hr2
          rcases h1.2 w hw h4 with h5 | h5
          · exact .inr ⟨0, _, Nat.le_refl _, rfl, mem_partOf.2 ⟨hw, h4, h5⟩⟩
          · exact .inl h5
        | succ i =>
          simp at hp
          rcases ih.down i p hp u w hu hw hr2 with h3 | ⟨j, q, h3, h4, h5⟩
          · rcases List.mem_append.1 h3 with h4 | h4
            · exact .inl h4
            · exact .inr ⟨0, _, by omega, rfl, h4⟩
          · exact .inr ⟨j + 1, q, by omega, by simpa using h4, h5⟩
theorem partsOf_ok (A : Arcs) (n : Nat) : PartsOk A n [] (partsOf A n) := partsGo_ok n [] (Listed.nil A n) (by simp)
theorem partsGo_congr {A B : Arcs} (h : ∀ a, a ∈ A ↔ a ∈ B) (n : Nat) : ∀ (k : Nat) (D : List Nat), partsGo A n k D = partsGo B n k D
  | 0, _ => rfl
  | k + 1, D => by
    have e1 : readyB A n D = readyB B n D := by
      funext v
      unfold readyB
      simp only [fun v w => reachB_congr h v w]
    have e2 : ∀ v, partOf A n v = partOf B n v := fun v => by
      unfold partOf eqvB
      simp only [fun v w => reachB_congr h v w]
    unfold partsGo
    rw [e1]
    split
    · rfl
    · rw [e2, partsGo_congr h n k]
theorem partsOf_congr {A B : Arcs} (h : ∀ a, a ∈ A ↔ a ∈ B) (n : Nat) : partsOf A n = partsOf B n := partsGo_congr h n n []

/-- How many arcs lead from the part of a first node to other parts that are not listed. -/
def openOf (A : Arcs) (n : Nat) (D : List Nat) (h : Nat) : Nat := A.countP fun a => hd A n a.1 == h && hd A n a.2 != h && !D.contains a.2
/-- What could come next: the first nodes. -/
def Next (A : Arcs) (n : Nat) (D : List Nat) (h : Nat) : Prop := h < n ∧ hd A n h = h ∧ h ∉ D ∧ openOf A n D h = 0
theorem openOf_zero {A : Arcs} {n : Nat} {D : List Nat} {h : Nat} : openOf A n D h = 0 ↔ ∀ a b, (a, b) ∈ A → hd A n a = h → hd A n b = h ∨ b ∈ D := by
  unfold openOf
  rw [List.countP_eq_zero]
  constructor
  · intro h1 a b hab he
    have h2 := h1 _ hab
    simp [he] at h2
    by_cases h3 : hd A n b = h
    · exact .inl h3
    · exact .inr (h2 h3)
  · rintro h1 ⟨a, b⟩ hab h2
    simp only [Bool.and_eq_true, beq_iff_eq, bne_iff_ne, Bool.not_eq_true', List.contains_eq_mem, decide_eq_false_iff_not] at h2
    rcases h1 a b hab h2.1.1 with h3 | h3
    · exact h2.1.2 h3
    · exact h2.2 h3
theorem next_ready {A : Arcs} {n : Nat} {D : List Nat} (hA : ∀ a ∈ A, a.1 < n ∧ a.2 < n) (hD : Listed A n D) {v : Nat} (hv : v < n) (he : hd A n v = v) : readyB A n D v = true ↔ Next A n D v := by
  rw [readyB_iff]
  unfold Next
  rw [openOf_zero]
  constructor
  · rintro ⟨h1, h2⟩
    refine ⟨hv, he, h1, fun a b hab hda => ?_⟩
    have hb := (hA _ hab).2
    have ha := (hA _ hab).1
    have h3 : eqv A a v := by rw [← hd_iff ha hv, hda, he]
    rcases h2 b hb (h3.2.trans (.one hab)) with h4 | h4
    · refine .inl ?_
      rw [← he, hd_iff hb hv]
      exact ⟨h4, h3.2.trans (.one hab)⟩
    · exact .inr h4
  · rintro ⟨_, _, h1, h2⟩
    refine ⟨h1, fun w hw hr => ?_⟩
    clear hw
    induction hr with
    | refl => exact .inl .refl
    | step h4 h5 ih =>
      rename_i u w
      have hu := (hA _ h5).1
      have hw := (hA _ h5).2
      rcases ih with h6 | h6
      · have h7 : hd A n u = v := by rw [hd_congr hu ⟨h6, h4⟩, he]
        rcases h2 _ _ h5 h7 with h8 | h8
        · rw [← he, hd_iff hw hv] at h8
          exact .inl h8.1
        · exact .inr h8
      · exact .inr (hD.down _ _ h6 hw (.one h5))
/-- The least of what could come next is the next part. -/
theorem next_find {A : Arcs} {n : Nat} {D : List Nat} (hA : ∀ a ∈ A, a.1 < n ∧ a.2 < n) (hD : Listed A n D) {h : Nat} (h1 : Next A n D h) (h2 : ∀ x, Next A n D x → h ≤ x) : (List.range n).find? (readyB A n D) = some h := by
  have hr := (next_ready hA hD h1.1 h1.2.1).2 h1
  rw [List.find?_range_eq_some]
  refine ⟨hr, List.mem_range.2 h1.1, fun j hj => ?_⟩
  cases h3 : readyB A n D j
  · rfl
  · have hjn : j < n := by have := h1.1; omega
    have h4 := (readyB_iff A n D j).1 h3
    have h5 := hd_mem (A := A) hjn
    have h6 : readyB A n D (hd A n j) = true := by
      rw [readyB_iff]
      refine ⟨fun h7 => h4.1 (hD.down _ _ h7 hjn h5.2.2), fun w hw hr2 => ?_⟩
      rcases h4.2 w hw (h5.2.1.trans hr2) with h7 | h7
      · exact .inl (h7.trans h5.2.1)
      · exact .inr h7
    have h7 := h2 _ ((next_ready hA hD h5.1 (hd_idem hjn)).1 h6)
    have h8 := hd_le hjn (eqv.refl A j)
    omega
theorem next_none {A : Arcs} {n : Nat} {D : List Nat} (hA : ∀ a ∈ A, a.1 < n ∧ a.2 < n) (hD : Listed A n D) (h : ∀ x, ¬ Next A n D x) : (List.range n).find? (readyB A n D) = none := by
  rw [List.find?_eq_none]
  intro j hj h3
  have hjn := List.mem_range.1 hj
  have h4 := (readyB_iff A n D j).1 h3
  have h5 := hd_mem (A := A) hjn
  have h6 : readyB A n D (hd A n j) = true := by
    rw [readyB_iff]
    refine ⟨fun h7 => h4.1 (hD.down _ _ h7 hjn h5.2.2), fun w hw hr2 => ?_⟩
    rcases h4.2 w hw (h5.2.1.trans hr2) with h7 | h7
    · exact .inl (h7.trans h5.2.1)
    · exact .inr h7
  exact h _ ((next_ready hA hD h5.1 (hd_idem hjn)).1 h6)
theorem find_next {A : Arcs} {n : Nat} {D : List Nat} (hA : ∀ a ∈ A, a.1 < n ∧ a.2 < n) (hD : Listed A n D) {v : Nat} (h : Next A n D v) : readyB A n D v = true := (next_ready hA hD h.1 h.2.1).2 h
end Go.Proofs.Ytobpolmlblpmjaa
