/-
  Lists of successors, as mathematics.
-/
import Derived.Test.YtobpolmlblpmjaaLists
import Derived.Test.YtobpolmlblpmjaaMem
namespace Go.Proofs.Ytobpolmlblpmjaa
set_option linter.unusedVariables false
set_option linter.unusedSimpArgs false

/-- The lists of successors of n nodes by the arcs l, in their order. -/
def addA (n : Nat) (l : List (Nat × Nat)) : List (List Nat) := l.foldl (fun L a => L.set a.1 (L.getD a.1 [] ++ [a.2])) (List.replicate n [])
theorem addA_snoc (n : Nat) (l : List (Nat × Nat)) (a : Nat × Nat) : addA n (l ++ [a]) = (addA n l).set a.1 ((addA n l).getD a.1 [] ++ [a.2]) := by simp [addA]
theorem snoc_ind {α : Type} {p : List α → Prop} (h0 : p []) (h1 : ∀ l a, p l → p (l ++ [a])) (l : List α) : p l := by
  suffices H : ∀ k (l : List α), l.length = k → p l from H _ l rfl
  intro k
  induction k with
  | zero => intro l hl; rw [List.eq_nil_of_length_eq_zero hl]; exact h0
  | succ k ih =>
    intro l hl
    rcases List.eq_nil_or_concat l with rfl | ⟨m, x, rfl⟩
    · simp at hl
    · rw [List.concat_eq_append] at hl ⊢
      exact h1 m x (ih m (by simpa using hl))
theorem addA_length (n : Nat) (l : List (Nat × Nat)) : (addA n l).length = n := by
  induction l using snoc_ind with
  | h0 => simp [addA]
  | h1 l a ih => rw [addA_snoc, List.length_set, ih]
theorem addA_count (n : Nat) (l : List (Nat × Nat)) (v w : Nat) (hv : v < n) : ((addA n l).getD v []).count w = l.count (v, w) := by
  induction l using snoc_ind with
  | h0 => simp [addA, List.getD_eq_getElem?_getD, List.getElem?_replicate, hv]
  | h1 l a ih =>
    obtain ⟨x, y⟩ := a
    rw [addA_snoc, List.count_append]
    by_cases e : x = v
    · subst e
      rw [List.getD_eq_getElem?_getD, List.getElem?_set_self (by rw [addA_length]; exact hv), Option.getD_some, List.count_append, ih]
      congr 1
      by_cases e2 : y = w
      · subst e2; simp
      · simp [e2]
    · rw [List.getD_eq_getElem?_getD, List.getElem?_set_ne e, ← List.getD_eq_getElem?_getD, ih]
      have : List.count (v, w) [(x, y)] = 0 := by
        rw [List.count_eq_zero]; simp; intro h; exact absurd h.symm e
      omega
theorem addA_mem (n : Nat) (l : List (Nat × Nat)) (v w : Nat) (hv : v < n) : w ∈ (addA n l).getD v [] ↔ (v, w) ∈ l := by
  rw [← List.count_pos_iff, addA_count n l v w hv, List.count_pos_iff]
theorem addA_len (n : Nat) (l : List (Nat × Nat)) (v : Nat) : ((addA n l).getD v []).length ≤ l.length := by
  induction l using snoc_ind with
  | h0 => simp [addA, List.getD_eq_getElem?_getD, List.getElem?_replicate]; split <;> simp
  | h1 l a ih =>
    rw [addA_snoc, List.length_append, List.length_singleton, List.getD_eq_getElem?_getD, List.getElem?_set]
    split
    · rename_i h
      split
      · subst h; rw [Option.getD_some, List.length_append, List.length_singleton]; omega
      · simp
    · rw [← List.getD_eq_getElem?_getD]; omega
/-- The arcs that lists of successors state. -/
def pairs (N : List (List Nat)) : List (Nat × Nat) := (List.range N.length).flatMap fun v => (N.getD v []).map fun w => (v, w)
theorem mem_pairs {N : List (List Nat)} {v w : Nat} : (v, w) ∈ pairs N ↔ w ∈ N.getD v [] := by
  unfold pairs
  simp only [List.mem_flatMap, List.mem_range, List.mem_map, Prod.mk.injEq]
  constructor
  · rintro ⟨a, _, b, h1, rfl, rfl⟩; exact h1
  · intro h
    refine ⟨v, ?_, w, h, rfl, rfl⟩
    apply Classical.byContradiction
    intro h2
    rw [List.getD_eq_getElem?_getD, List.getElem?_eq_none (by omega)] at h
    simp at h
/-- The first arcs: those of the nodes below i, and k of those of i. -/
def pairsTo (N : List (List Nat)) (i k : Nat) : List (Nat × Nat) := ((List.range i).flatMap fun v => (N.getD v []).map fun w => (v, w)) ++ ((N.getD i []).take k).map fun w => (i, w)
theorem pairsTo_step (N : List (List Nat)) (i k : Nat) (h : k < (N.getD i []).length) : pairsTo N i (k + 1) = pairsTo N i k ++ [(i, (N.getD i [])[k])] := by
  unfold pairsTo
  rw [List.take_succ_eq_append_getElem h, List.map_append, ← List.append_assoc]; rfl
theorem pairsTo_next (N : List (List Nat)) (i k : Nat) (h : (N.getD i []).length ≤ k) : pairsTo N i k = pairsTo N (i + 1) 0 := by
  unfold pairsTo
  rw [List.take_of_length_le h, List.range_succ, List.flatMap_append]
  simp
theorem pairsTo_zero (N : List (List Nat)) : pairsTo N 0 0 = [] := by simp [pairsTo]
theorem pairsTo_all (N : List (List Nat)) : pairsTo N N.length 0 = pairs N := by simp [pairsTo, pairs]
theorem pairsTo_len (N : List (List Nat)) (m : Nat) (hm : ∀ l ∈ N, l.length ≤ m) (i k : Nat) (hi : i ≤ N.length) (hk : k ≤ m) : (pairsTo N i k).length ≤ i * m + m := by
  unfold pairsTo
  rw [List.length_append, List.length_map, List.length_take]
  have : ((List.range i).flatMap fun v => (N.getD v []).map fun w => (v, w)).length ≤ i * m := by
    clear hk
    induction i with
    | zero => simp
    | succ i ih =>
      rw [List.range_succ, List.flatMap_append, List.length_append]
      have h1 := ih (by omega)
      have h2 : (N.getD i []).length ≤ m := by
        rw [List.getD_eq_getElem?_getD, List.getElem?_eq_getElem (by omega)]
        exact hm _ (List.getElem_mem _)
      simp only [List.flatMap_cons, List.flatMap_nil, List.append_nil, List.length_map]
      rw [Nat.add_mul]; omega
  omega
def swp (a : Nat × Nat) : Nat × Nat := (a.2, a.1)
/-- All arcs turned round. -/
def backOf (N : List (List Nat)) : List (List Nat) := addA N.length ((pairs N).map swp)
theorem mem_backOf {N : List (List Nat)} {v w : Nat} (hw : w < N.length) : v ∈ (backOf N).getD w [] ↔ w ∈ N.getD v [] := by
  unfold backOf
  rw [addA_mem _ _ _ _ hw, List.mem_map, ← mem_pairs]
  constructor
  · rintro ⟨⟨a, b⟩, h, e⟩
    unfold swp at e
    injection e with e1 e2
    subst e1; subst e2; exact h
  · intro h; exact ⟨(v, w), h, rfl⟩
/-- The lists of successors, ascending. -/
def srt (l : List Nat) : List Nat := l.mergeSort (fun x y => decide (x ≤ y))
theorem srt_perm (l : List Nat) : (srt l).Perm l := List.mergeSort_perm _ _
theorem srt_asc (l : List Nat) : (srt l).Pairwise (· ≤ ·) := by
  have h := List.pairwise_mergeSort (le := fun x y : Nat => decide (x ≤ y)) (fun a b c h1 h2 => by simp at *; omega) (fun a b => by simp; omega) l
  exact h.imp (fun h => by simpa using h)
theorem srt_len (l : List Nat) : (srt l).length = l.length := (srt_perm l).length_eq
def nextOf (n : Nat) (A : List (Nat × Nat)) : List (List Nat) := (addA n A).map srt
theorem nextOf_length (n : Nat) (A : List (Nat × Nat)) : (nextOf n A).length = n := by simp [nextOf, addA_length]
theorem nextOf_get (n : Nat) (A : List (Nat × Nat)) (v : Nat) : (nextOf n A).getD v [] = srt ((addA n A).getD v []) := by
  unfold nextOf
  simp only [List.getD_eq_getElem?_getD, List.getElem?_map]
  cases (addA n A)[v]? with
  | none => simp [srt]
  | some l => rfl
theorem mem_nextOf {n : Nat} {A : List (Nat × Nat)} {v w : Nat} (hv : v < n) : w ∈ (nextOf n A).getD v [] ↔ (v, w) ∈ A := by
  rw [nextOf_get, (srt_perm _).mem_iff, addA_mem _ _ _ _ hv]
theorem zi_srt (l : List Nat) : (zi l).mergeSort (fun x y => decide (x ≤ y)) = zi (srt l) := by
  have h1 : ((zi l).mergeSort (fun x y => decide (x ≤ y))).Pairwise (· ≤ ·) :=
    (List.pairwise_mergeSort (le := fun x y : Int => decide (x ≤ y)) (fun a b c h1 h2 => by simp at *; omega) (fun a b => by simp; omega) (zi l)).imp (fun h => by simpa using h)
  have h2 : (zi (srt l)).Pairwise (· ≤ ·) := by
    unfold zi
    rw [List.pairwise_map]
    exact (srt_asc l).imp (fun h => by omega)
  have h3 : ((zi l).mergeSort (fun x y => decide (x ≤ y))).Perm (zi (srt l)) := (List.mergeSort_perm _ _).trans ((srt_perm l).symm.map _)
  exact h3.eq_of_pairwise (fun a b _ _ h4 h5 => by omega) h1 h2

/-- What the lists of successors are, of a graph with n nodes. -/
structure Succ (n : Nat) (N : List (List Nat)) : Prop where
  len : N.length = n
  lt : ∀ l ∈ N, ∀ w ∈ l, w < n
theorem Succ.get {n : Nat} {N : List (List Nat)} (h : Succ n N) {v : Nat} : ∀ w ∈ N.getD v [], w < n := by
  intro w hw
  rw [List.getD_eq_getElem?_getD] at hw
  cases e : N[v]? with
  | none => rw [e] at hw; simp at hw
  | some l => rw [e] at hw; exact h.lt l (List.mem_of_getElem? e) w hw
theorem succ_addA {n : Nat} {l : List (Nat × Nat)} (h : ∀ a ∈ l, a.1 < n ∧ a.2 < n) : Succ n (addA n l) := by
  refine ⟨addA_length n l, fun m hm w hw => ?_⟩
  obtain ⟨v, hv, rfl⟩ := List.getElem_of_mem hm
  have hv2 : v < n := by rw [addA_length] at hv; exact hv
  have h1 : w ∈ (addA n l).getD v [] := by rw [List.getD_eq_getElem?_getD, List.getElem?_eq_getElem hv]; exact hw
  exact (h _ ((addA_mem n l v w hv2).1 h1)).2
theorem succ_nextOf {n : Nat} {l : List (Nat × Nat)} (h : ∀ a ∈ l, a.1 < n ∧ a.2 < n) : Succ n (nextOf n l) := by
  refine ⟨nextOf_length n l, fun m hm w hw => ?_⟩
  obtain ⟨x, hx, rfl⟩ := List.mem_map.1 hm
  exact (succ_addA h).lt x hx w ((srt_perm x).mem_iff.1 hw)
theorem succ_backOf {n : Nat} {N : List (List Nat)} (h : Succ n N) : Succ n (backOf N) := by
  unfold backOf
  rw [h.len]
  refine succ_addA fun a ha => ?_
  obtain ⟨⟨v, w⟩, h1, rfl⟩ := List.mem_map.1 ha
  have h2 := mem_pairs.1 h1
  refine ⟨h.get w h2, ?_⟩
  show v < n
  rw [← h.len]
  apply Classical.byContradiction
  intro h3
  rw [List.getD_eq_getElem?_getD, List.getElem?_eq_none (by omega)] at h2
  simp at h2
end Go.Proofs.Ytobpolmlblpmjaa
