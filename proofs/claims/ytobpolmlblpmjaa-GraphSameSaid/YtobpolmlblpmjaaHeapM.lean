/-
  Heaps of numbers.
-/
import Derived.Test.YtobpolmlblpmjaaDfsM
namespace Go.Proofs.Ytobpolmlblpmjaa
set_option linter.unusedVariables false
set_option linter.unusedSimpArgs false

def swapL (h : List Nat) (i j : Nat) : List Nat := (h.set i (h.getD j 0)).set j (h.getD i 0)
theorem swapL_length (h : List Nat) (i j : Nat) : (swapL h i j).length = h.length := by simp [swapL]
theorem swapL_get (h : List Nat) {i j : Nat} (hi : i < h.length) (hj : j < h.length) (k : Nat) : (swapL h i j).getD k 0 = if k = j then h.getD i 0 else if k = i then h.getD j 0 else h.getD k 0 := by
  unfold swapL
  by_cases e : k = j
  · subst e
    rw [if_pos rfl]; exact getD_set_self _ _ _ _ (by rw [List.length_set]; exact hj)
  · rw [if_neg e, getD_set_ne _ _ _ _ _ (fun h => e h.symm)]
    by_cases e2 : k = i
    · subst e2
      rw [if_pos rfl]; exact getD_set_self _ _ _ _ hi
    · rw [if_neg e2, getD_set_ne _ _ _ _ _ (fun h => e2 h.symm)]
theorem swapL_perm (h : List Nat) {i j : Nat} (hi : i < h.length) (hj : j < h.length) : (swapL h i j).Perm h := by
  rw [List.perm_iff_count]
  intro a
  have key : ∀ (l : List Nat) (k x : Nat), k < l.length → (l.set k x).count a + (if l.getD k 0 = a then 1 else 0) = l.count a + (if x = a then 1 else 0) := by
    intro l
    induction l with
    | nil => intro k x hk; simp at hk
    | cons b l ih =>
      intro k x hk
      cases k with
      | zero =>
        simp only [List.set_cons_zero, List.count_cons, List.getD_cons_zero, beq_iff_eq]
        omega
      | succ k =>
        have := ih k x (by simpa using hk)
        simp only [List.set_cons_succ, List.count_cons, List.getD_cons_succ]
        omega
  unfold swapL
  have h1 := key h i (h.getD j 0) hi
  have h2 := key (h.set i (h.getD j 0)) j (h.getD i 0) (by rw [List.length_set]; exact hj)
  by_cases e : i = j
  · subst e
    rw [getD_set_self _ _ _ _ hi] at h2
    omega
  · rw [getD_set_ne _ _ _ _ _ e] at h2
    omega
def Heap (h : List Nat) (n : Nat) : Prop := ∀ k, 0 < k → k < n → h.getD ((k - 1) / 2) 0 ≤ h.getD k 0
theorem Heap.min {h : List Nat} {n : Nat} (H : Heap h n) : ∀ k, k < n → h.getD 0 0 ≤ h.getD k 0 := by
  intro k
  induction k using Nat.strongRecOn with
  | ind k ih =>
    intro hk
    by_cases e : k = 0
    · rw [e]; exact Nat.le_refl _
    · exact Nat.le_trans (ih ((k - 1) / 2) (by omega) (by omega)) (H k (by omega) hk)
structure UpOk (h : List Nat) (j : Nat) : Prop where
  a : ∀ k, 0 < k → k < h.length → k ≠ j → h.getD ((k - 1) / 2) 0 ≤ h.getD k 0
  b : ∀ k, 0 < k → k < h.length → (k - 1) / 2 = j → 0 < j → h.getD ((j - 1) / 2) 0 ≤ h.getD k 0
theorem UpOk.start {h : List Nat} (H : Heap h h.length) (x : Nat) : UpOk (h ++ [x]) h.length := by
  have e : ∀ k, k < h.length → (h ++ [x]).getD k 0 = h.getD k 0 := fun k hk => by
    rw [List.getD_eq_getElem?_getD, List.getD_eq_getElem?_getD, List.getElem?_append_left hk]
  refine ⟨fun k h0 hk hn => ?_, fun k h0 hk hp hj => ?_⟩
  · rw [List.length_append, List.length_singleton] at hk
    rw [e _ (by omega), e k (by omega)]
    exact H k h0 (by omega)
  · rw [List.length_append, List.length_singleton] at hk; omega
theorem UpOk.zero {h : List Nat} (H : UpOk h 0) : Heap h h.length := fun k h0 hk => H.a k h0 hk (by omega)
theorem UpOk.stop {h : List Nat} {j : Nat} (H : UpOk h j) (hs : ¬ h.getD j 0 < h.getD ((j - 1) / 2) 0) : Heap h h.length := fun k h0 hk => by
  by_cases e : k = j
  · subst e; omega
  · exact H.a k h0 hk e
theorem UpOk.step {h : List Nat} {j : Nat} (H : UpOk h j) (h0 : 0 < j) (hj : j < h.length) (hs : h.getD j 0 < h.getD ((j - 1) / 2) 0) : UpOk (swapL h ((j - 1) / 2) j) ((j - 1) / 2) := by
  have hi : (j - 1) / 2 < h.length := by omega
  have g := swapL_get h hi hj
  refine ⟨fun k k0 hk hn => ?_, fun k k0 hk hp hi0 => ?_⟩
  · rw [swapL_length] at hk
    rw [g, g]
    by_cases e1 : k = j
    · subst e1
      rw [if_pos rfl, if_neg (by omega), if_pos rfl]; omega
    · rw [if_neg e1, if_neg hn]
      by_cases e2 : (k - 1) / 2 = j
      · rw [if_pos e2]; exact H.b k k0 hk e2 h0
      · rw [if_neg e2]
        by_cases e3 : (k - 1) / 2 = (j - 1) / 2
        · rw [if_pos e3]
          have := H.a k k0 hk e1
          rw [e3] at this; omega
        · rw [if_neg e3]; exact H.a k k0 hk e1
  · rw [swapL_length] at hk
    rw [g, g, if_neg (by omega), if_neg (by omega)]
    have h1 := H.a ((j - 1) / 2) hi0 hi (by omega)
    by_cases e1 : k = j
    · rw [if_pos e1]; exact h1
    · rw [if_neg e1, if_neg (by omega)]
      have h2 := H.a k k0 hk e1
      rw [hp] at h2; omega
structure DownOk (h : List Nat) (n i : Nat) : Prop where
  a : ∀ k, 0 < k → k < n → (k - 1) / 2 ≠ i → h.getD ((k - 1) / 2) 0 ≤ h.getD k 0
  b : ∀ k, 0 < k → k < n → (k - 1) / 2 = i → 0 < i → h.getD ((i - 1) / 2) 0 ≤ h.getD k 0
theorem DownOk.start {h : List Nat} {n : Nat} (H : Heap h (n + 1)) (hl : h.length = n + 1) : DownOk (swapL h 0 n) n 0 := by
  have g := swapL_get h (i := 0) (j := n) (by omega) (by omega)
  refine ⟨fun k k0 hk hn => ?_, fun k _ _ _ h0 => by omega⟩
  rw [g, g, if_neg (by omega), if_neg (by omega), if_neg (by omega), if_neg (by omega)]
  exact H k k0 (by omega)
theorem DownOk.leaf {h : List Nat} {n i : Nat} (H : DownOk h n i) (hi : n ≤ 2 * i + 1) : Heap h n := fun k k0 hk => H.a k k0 hk (by omega)
theorem DownOk.stop {h : List Nat} {n i j : Nat} (H : DownOk h n i) (hj : ∀ k, 0 < k → k < n → (k - 1) / 2 = i → h.getD j 0 ≤ h.getD k 0) (hs : ¬ h.getD j 0 < h.getD i 0) : Heap h n := fun k k0 hk => by
  by_cases e : (k - 1) / 2 = i
  · have := hj k k0 hk e
    rw [e]; omega
  · exact H.a k k0 hk e
theorem DownOk.step {h : List Nat} {n i j : Nat} (H : DownOk h n i) (hn : n ≤ h.length) (hjn : j < n) (hj0 : 0 < j) (hp : (j - 1) / 2 = i) (hj : ∀ k, 0 < k → k < n → (k - 1) / 2 = i → h.getD j 0 ≤ h.getD k 0) (hs : h.getD j 0 < h.getD i 0) : DownOk (swapL h i j) n j := by
  have g := swapL_get h (i := i) (j := j) (by omega) (by omega)
  refine ⟨fun k k0 hk hne => ?_, fun k k0 hk hpk _ => ?_⟩
  · rw [g, g, if_neg hne]
    by_cases e1 : (k - 1) / 2 = i
    · rw [if_pos e1]
      by_cases e2 : k = j
      · rw [if_pos e2]; omega
      · rw [if_neg e2, if_neg (by omega)]; exact hj k k0 hk e1
    · rw [if_neg e1]
      have e2 : k ≠ j := fun e => e1 (by rw [e]; exact hp)
      rw [if_neg e2]
      by_cases e3 : k = i
      · rw [if_pos e3]
        have h1 := H.b j hj0 hjn hp (by omega)
        rw [e3]; exact h1
      · rw [if_neg e3]; exact H.a k k0 hk e1
  · rw [g, g, hp, if_neg (by omega), if_pos rfl, if_neg (by omega), if_neg (by omega)]
    have h1 := H.a k k0 hk (by omega)
    rw [hpk] at h1; exact h1
/-- The swaps of down leave what stands behind n. -/
theorem swapL_last (h : List Nat) {i j n : Nat} (hi : i < n) (hj : j < n) (hn : n < h.length) : (swapL h i j).getD n 0 = h.getD n 0 := by
  rw [swapL_get h (by omega) (by omega), if_neg (by omega), if_neg (by omega)]
theorem heap_take {h : List Nat} {n : Nat} (H : Heap h n) (hl : h.length = n + 1) : Heap (h.take n) (h.take n).length := by
  intro k k0 hk
  rw [List.length_take] at hk
  have e : ∀ i, i < n → (h.take n).getD i 0 = h.getD i 0 := fun i hi => by
    rw [List.getD_eq_getElem?_getD, List.getD_eq_getElem?_getD, List.getElem?_take, if_pos hi]
  rw [e _ (by omega), e k (by omega)]
  exact H k k0 (by omega)
theorem split_last {h : List Nat} {n : Nat} (hl : h.length = n + 1) : h = h.take n ++ [h.getD n 0] := by
  have h1 : (h.take (n + 1)) = h.take n ++ [h.getD n 0] := by
    rw [List.take_succ_eq_append_getElem (by omega), List.getD_eq_getElem?_getD, List.getElem?_eq_getElem (by omega)]; rfl
  rw [List.take_of_length_le (by omega)] at h1
  exact h1
end Go.Proofs.Ytobpolmlblpmjaa
