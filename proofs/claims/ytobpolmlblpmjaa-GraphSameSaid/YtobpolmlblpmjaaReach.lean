/-
  Graphs: what is reached.
-/
import Init
namespace Go.Proofs.Ytobpolmlblpmjaa
set_option linter.unusedVariables false
set_option linter.unusedSimpArgs false

abbrev Arcs := List (Nat × Nat)
/-- w is reached from v. -/
inductive RT (A : Arcs) (v : Nat) : Nat → Prop
  | refl : RT A v v
  | step {u w : Nat} : RT A v u → (u, w) ∈ A → RT A v w
theorem RT.one {A : Arcs} {v w : Nat} (h : (v, w) ∈ A) : RT A v w := .step .refl h
theorem RT.trans {A : Arcs} {u v w : Nat} (h : RT A u v) (h2 : RT A v w) : RT A u w := by
  induction h2 with
  | refl => exact h
  | step _ h4 ih => exact .step ih h4
/-- A set closed under arcs. -/
theorem RT.closed {A : Arcs} {v w : Nat} {S : Nat → Prop} (hv : S v) (hc : ∀ a b, (a, b) ∈ A → S a → S b) (h : RT A v w) : S w := by
  induction h with
  | refl => exact hv
  | step _ h4 ih => exact hc _ _ h4 ih
theorem RT.lt {A : Arcs} {n v w : Nat} (hA : ∀ a ∈ A, a.1 < n ∧ a.2 < n) (hv : v < n) (h : RT A v w) : w < n :=
  h.closed (S := fun x => x < n) hv (fun a b hab _ => (hA _ hab).2)
theorem RT.mono {A B : Arcs} {v w : Nat} (hs : ∀ a ∈ A, a ∈ B) (h : RT A v w) : RT B v w := by
  induction h with
  | refl => exact .refl
  | step _ h4 ih => exact .step ih (hs _ h4)
/-- The first arc is taken. -/
theorem RT.head {A : Arcs} {v w : Nat} (h : RT A v w) : v = w ∨ ∃ u, (v, u) ∈ A ∧ RT A u w := by
  induction h with
  | refl => exact .inl rfl
  | step h3 h4 ih =>
    rcases ih with rfl | ⟨u, h5, h6⟩
    · exact .inr ⟨_, h4, .refl⟩
    · exact .inr ⟨u, h5, .step h6 h4⟩

/-- The next arc that leads out of a list. -/
def outArc (A : Arcs) (S : List Nat) : Option (Nat × Nat) := A.find? fun a => S.contains a.1 && !S.contains a.2
def clos (A : Arcs) : Nat → List Nat → List Nat
  | 0, S => S
  | k + 1, S => match outArc A S with
    | none => S
    | some a => clos A k (S ++ [a.2])
theorem clos_sub (A : Arcs) : ∀ (k : Nat) (S : List Nat) (x : Nat), x ∈ S → x ∈ clos A k S
  | 0, S, x, h => h
  | k + 1, S, x, h => by
    unfold clos
    split
    · exact h
    · exact clos_sub A k _ x (by simp [h])
theorem clos_sound (A : Arcs) (v : Nat) : ∀ (k : Nat) (S : List Nat), (∀ x ∈ S, RT A v x) → ∀ x ∈ clos A k S, RT A v x
  | 0, S, h => h
  | k + 1, S, h => by
    unfold clos
    split
    · exact h
    · rename_i a ha
      refine clos_sound A v k _ (fun x hx => ?_)
      have h1 := List.find?_some ha
      have h2 := List.mem_of_find?_eq_some ha
      simp only [Bool.and_eq_true, List.contains_iff_mem] at h1
      rcases List.mem_append.1 hx with h3 | h3
      · exact h x h3
      · rw [List.mem_singleton.1 h3]
        exact .step (h _ h1.1) h2
/-- How many arcs have targets outside. -/
def outs (A : Arcs) (S : List Nat) : Nat := A.countP fun a => !S.contains a.2
theorem outs_lt {A : Arcs} {S : List Nat} {a : Nat × Nat} (h : outArc A S = some a) : outs A (S ++ [a.2]) < outs A S := by
  have h1 := List.find?_some h
  have h2 := List.mem_of_find?_eq_some h
  simp only [Bool.and_eq_true, Bool.not_eq_true'] at h1
  obtain ⟨_, h3⟩ := h1
  unfold outs
  clear h
  induction A with
  | nil => simp at h2
  | cons b A ih =>
    have hle : A.countP (fun c => !(S ++ [a.2]).contains c.2) ≤ A.countP (fun c => !S.contains c.2) := by
      apply List.countP_mono_left
      intro x _ hx
      simp only [Bool.not_eq_true', List.contains_eq_mem, decide_eq_false_iff_not, List.mem_append] at hx ⊢
      exact fun h => hx (.inl h)
    rw [List.countP_cons, List.countP_cons]
    rcases List.mem_cons.1 h2 with h4 | h4
    · subst h4
      have e1 : (!(S ++ [a.2]).contains a.2) = false := by simp
      have e2 : (!S.contains a.2) = true := by rw [h3]; rfl
      rw [e1, e2]
      simp only [if_true, Bool.false_eq_true, if_false]
      omega
    · have := ih h4
      have h5 : (if (!(S ++ [a.2]).contains b.2) = true then 1 else 0) ≤ (if (!S.contains b.2) = true then 1 else 0) := by
        by_cases h6 : b.2 ∈ S
        · simp [h6]
        · simp only [List.contains_eq_mem, h6]
          split <;> simp
      omega
theorem clos_closed (A : Arcs) : ∀ (k : Nat) (S : List Nat), outs A S ≤ k → outArc A (clos A k S) = none
  | 0, S, h => by
    unfold clos
    by_cases h2 : outArc A S = none
    · exact h2
    · obtain ⟨a, ha⟩ := Option.ne_none_iff_exists'.1 h2
      have := outs_lt ha
      omega
  | k + 1, S, h => by
    unfold clos
    split
    · assumption
    · rename_i a ha
      have := outs_lt ha
      exact clos_closed A k _ (by omega)
/-- What is reached from v, as a computation. -/
def reachB (A : Arcs) (v w : Nat) : Bool := (clos A A.length [v]).contains w
theorem reachB_iff (A : Arcs) (v w : Nat) : reachB A v w = true ↔ RT A v w := by
  unfold reachB
  rw [List.contains_iff_mem]
  constructor
  · exact clos_sound A v _ [v] (fun x hx => by rw [List.mem_singleton.1 hx]; exact .refl) w
  · intro h
    refine h.closed (S := fun x => x ∈ clos A A.length [v]) (clos_sub A _ _ _ (by simp)) (fun a b hab ha => ?_)
    have h2 := clos_closed A A.length [v] (List.countP_le_length)
    apply Classical.byContradiction
    intro hb
    have := List.find?_eq_none.1 h2 _ hab
    simp [ha, hb] at this
theorem reachB_congr {A B : Arcs} (h : ∀ a, a ∈ A ↔ a ∈ B) (v w : Nat) : reachB A v w = reachB B v w := by
  rw [Bool.eq_iff_iff, reachB_iff, reachB_iff]
  exact ⟨fun h2 => h2.mono fun a ha => (h a).1 ha, fun h2 => h2.mono fun a ha => (h a).2 ha⟩
end Go.Proofs.Ytobpolmlblpmjaa
