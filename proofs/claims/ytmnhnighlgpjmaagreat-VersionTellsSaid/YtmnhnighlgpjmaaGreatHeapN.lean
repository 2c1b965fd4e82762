/-
  A search in depth: its order of leaving.
  Heaps of numbers.
-/
import Derived.Test.YtmnhnighlgpjmaaGreatNestA
import Derived.Test.YtmnhnighlgpjmaaGreatMathA
namespace Go.Proofs.YtmnhnighlgpjmaaGreat
set_option linter.unusedVariables false
set_option linter.unusedSimpArgs false

/-- The state of a search in depth: the nodes that were left, the stack, how many arcs of each node were taken, which nodes were seen. -/
structure Dfs (A : Arcs) (N : List (List Nat)) (n : Nat) (L S T : List Nat) (V : List Bool) : Prop where
  tl : T.length = n
  vl : V.length = n
  seen : ∀ v, v < n → (V.getD v false = true ↔ v ∈ L ∨ v ∈ S)
  nd : (L ++ S).Nodup
  lt : ∀ v ∈ L ++ S, v < n
  le : ∀ u, u < n → T.getD u 0 ≤ (N.getD u []).length
  arcs : ∀ u, u < n → ∀ w ∈ (N.getD u []).take (T.getD u 0), w ∈ L ∨ w ∈ S
  full : ∀ u ∈ L, T.getD u 0 = (N.getD u []).length
  path : S.Pairwise (fun a b => RT A a b)
  leave : Leave A L
theorem getD_rep {α : Type} (n v : Nat) (a b : α) (h : v < n) : (List.replicate n a).getD v b = a := by
  rw [List.getD_eq_getElem?_getD, List.getElem?_replicate, if_pos h]; rfl
theorem getD_set_self {α : Type} (l : List α) (i : Nat) (a b : α) (h : i < l.length) : (l.set i a).getD i b = a := by
  rw [List.getD_eq_getElem?_getD, List.getElem?_set_self h]; rfl
theorem getD_set_ne {α : Type} (l : List α) (i j : Nat) (a b : α) (h : i ≠ j) : (l.set i a).getD j b = l.getD j b := by
  rw [List.getD_eq_getElem?_getD, List.getElem?_set_ne h, ← List.getD_eq_getElem?_getD]
theorem Dfs.start (A : Arcs) (N : List (List Nat)) (n : Nat) : Dfs A N n [] [] (List.replicate n 0) (List.replicate n false) where
  tl := by simp
  vl := by simp
  seen := fun v hv => by rw [getD_rep n v false false hv]; simp
  nd := by simp
  lt := by simp
  le := fun u hu => by rw [getD_rep n u 0 0 hu]; omega
  arcs := fun u hu w hw => by rw [getD_rep n u 0 0 hu] at hw; simp at hw
  full := by simp
  path := by simp
  leave := Leave.nil A
/-- A root that was not seen. -/
theorem Dfs.root {A : Arcs} {N : List (List Nat)} {n : Nat} {L T : List Nat} {V : List Bool} (h : Dfs A N n L [] T V) {r : Nat} (hr : r < n) (hs : V.getD r false = false) : Dfs A N n L [r] T (V.set r true) := by
  have hrn : r ∉ L := fun hm => by have := (h.seen r hr).2 (.inl hm); rw [hs] at this; cases this
  refine { h with vl := by rw [List.length_set]; exact h.vl, seen := fun v hv => ?_, nd := ?_, lt := fun v hv => ?_, arcs := fun u hu w hw => ?_, path := by simp }
  · by_cases e : r = v
    · subst e; rw [getD_set_self _ _ _ _ (by rw [h.vl]; exact hr)]; simp
    · rw [getD_set_ne _ _ _ _ _ e, h.seen v hv]; simp; exact fun e2 => absurd e2.symm e
  · have h1 := h.nd
    rw [List.append_nil] at h1
    exact nodup_snoc h1 hrn
  · rcases List.mem_append.1 hv with h1 | h1
    · exact h.lt v (by simp [h1])
    · rw [List.mem_singleton.1 h1]; exact hr
  · rcases h.arcs u hu w hw with h1 | h1
    · exact .inl h1
    · simp at h1
theorem take_getD (l : List Nat) (k : Nat) (h : k < l.length) : l.take (k + 1) = l.take k ++ [l.getD k 0] := by
  rw [List.take_succ_eq_append_getElem h, List.getD_eq_getElem?_getD, List.getElem?_eq_getElem h]; rfl
/-- An arc to a node that was seen. -/
theorem Dfs.skip {A : Arcs} {N : List (List Nat)} {n : Nat} {L S T : List Nat} {V : List Bool} {v : Nat} (h : Dfs A N n L (S ++ [v]) T V) (hk : T.getD v 0 < (N.getD v []).length) (hw : (N.getD v []).getD (T.getD v 0) 0 < n) (hs : V.getD ((N.getD v []).getD (T.getD v 0) 0) false = true) :
    Dfs A N n L (S ++ [v]) (T.set v (T.getD v 0 + 1)) V := by
  have hv : v < n := h.lt v (by simp)
  have hvL : v ∉ L := fun hm => (List.nodup_append.1 h.nd).2.2 v hm v (by simp) rfl
  refine { h with tl := by rw [List.length_set]; exact h.tl, le := fun u hu => ?_, arcs := fun u hu w hw2 => ?_, full := fun u hu => ?_ }
  · by_cases e : v = u
    · subst e; rw [getD_set_self _ _ _ _ (by rw [h.tl]; exact hv)]; omega
    · rw [getD_set_ne _ _ _ _ _ e]; exact h.le u hu
  · by_cases e : v = u
    · subst e
      rw [getD_set_self _ _ _ _ (by rw [h.tl]; exact hv), take_getD _ _ hk] at hw2
      rcases List.mem_append.1 hw2 with h1 | h1
      · exact h.arcs v hv w h1
      · rw [List.mem_singleton.1 h1]; exact (h.seen _ hw).1 hs
    · rw [getD_set_ne _ _ _ _ _ e] at hw2; exact h.arcs u hu w hw2
  · have e : v ≠ u := fun e => hvL (e ▸ hu)
    rw [getD_set_ne _ _ _ _ _ e]; exact h.full u hu
/-- An arc to a node that was not seen. -/
theorem Dfs.push {A : Arcs} {N : List (List Nat)} {n : Nat} {L S T : List Nat} {V : List Bool} {v w : Nat} (h : Dfs A N n L (S ++ [v]) T V) (hk : T.getD v 0 < (N.getD v []).length) (hwe : (N.getD v []).getD (T.getD v 0) 0 = w) (hw : w < n) (hs : V.getD w false = false) (ha : (v, w) ∈ A) :
    Dfs A N n L (S ++ [v] ++ [w]) (T.set v (T.getD v 0 + 1)) (V.set w true) := by
  have hv : v < n := h.lt v (by simp)
  have hvL : v ∉ L := fun hm => (List.nodup_append.1 h.nd).2.2 v hm v (by simp) rfl
  have hwn : ¬ (w ∈ L ∨ w ∈ S ++ [v]) := fun hm => by have := (h.seen w hw).2 hm; rw [hs] at this; cases this
  refine { h with tl := by rw [List.length_set]; exact h.tl, vl := by rw [List.length_set]; exact h.vl, seen := fun x hx => ?_, nd := ?_, lt := fun x hx => ?_, le := fun u hu => ?_, arcs := fun u hu x hx => ?_, full := fun u hu => ?_, path := ?_ }
  · by_cases e : w = x
    · subst e; rw [getD_set_self _ _ _ _ (by rw [h.vl]; exact hw)]; simp
    · rw [getD_set_ne _ _ _ _ _ e, h.seen x hx]
      constructor
      · rintro (h1 | h1)
        · exact .inl h1
        · exact .inr (List.mem_append_left _ h1)
      · rintro (h1 | h1)
        · exact .inl h1
        · rcases List.mem_append.1 h1 with h2 | h2
          · exact .inr h2
          · exact absurd (List.mem_singleton.1 h2).symm e
  · rw [← List.append_assoc]
    exact nodup_snoc h.nd (fun hm => hwn (List.mem_append.1 hm))
  · rw [← List.append_assoc] at hx
    rcases List.mem_append.1 hx with h1 | h1
    · exact h.lt x h1
    · rw [List.mem_singleton.1 h1]; exact hw
  · by_cases e : v = u
    · subst e; rw [getD_set_self _ _ _ _ (by rw [h.tl]; exact hv)]; omega
    · rw [getD_set_ne _ _ _ _ _ e]; exact h.le u hu
  · have up : x ∈ L ∨ x ∈ S ++ [v] → x ∈ L ∨ x ∈ S ++ [v] ++ [w] := fun h1 => h1.elim .inl (fun h2 => .inr (List.mem_append_left _ h2))
    by_cases e : v = u
    · subst e
      rw [getD_set_self _ _ _ _ (by rw [h.tl]; exact hv), take_getD _ _ hk, hwe] at hx
      rcases List.mem_append.1 hx with h1 | h1
      · exact up (h.arcs v hv x h1)
      · rw [List.mem_singleton.1 h1]; exact .inr (by simp)
    · rw [getD_set_ne _ _ _ _ _ e] at hx; exact up (h.arcs u hu x hx)
  · have e : v ≠ u := fun e => hvL (e ▸ hu)
    rw [getD_set_ne _ _ _ _ _ e]; exact h.full u hu
  · rw [List.pairwise_append]
    refine ⟨h.path, by simp, fun a ha2 b hb => ?_⟩
    rw [List.mem_singleton.1 hb]
    rcases List.mem_append.1 ha2 with h1 | h1
    · exact .step ((List.pairwise_append.1 h.path).2.2 a h1 v (by simp)) ha
    · rw [List.mem_singleton.1 h1]; exact .one ha
/-- The node on top is left. -/
theorem Dfs.pop {A : Arcs} {N : List (List Nat)} {n : Nat} {L S T : List Nat} {V : List Bool} {v : Nat} (h : Dfs A N n L (S ++ [v]) T V) (hA : ∀ u, u < n → ∀ w, (u, w) ∈ A → w ∈ N.getD u []) (hk : T.getD v 0 = (N.getD v []).length) : Dfs A N n (L ++ [v]) S T V := by
  have hperm : (L ++ (S ++ [v])).Perm (L ++ [v] ++ S) := by
    rw [List.append_assoc]
    exact List.Perm.append_left _ List.perm_append_comm
  have hmem : ∀ x, x ∈ L ∨ x ∈ S ++ [v] ↔ x ∈ L ++ [v] ∨ x ∈ S := fun x => by
    simp only [List.mem_append, List.mem_singleton]
    constructor
    · rintro (h1 | h1 | h1)
      · exact .inl (.inl h1)
      · exact .inr h1
      · exact .inl (.inr h1)
    · rintro ((h1 | h1) | h1)
      · exact .inl h1
      · exact .inr (.inr h1)
      · exact .inr (.inl h1)
  refine { h with seen := fun x hx => (h.seen x hx).trans (hmem x), nd := hperm.nodup_iff.1 h.nd, lt := fun x hx => h.lt x (hperm.mem_iff.2 hx), arcs := fun u hu w hw => (hmem w).1 (h.arcs u hu w hw), full := fun u hu => ?_, path := (List.pairwise_append.1 h.path).1, leave := h.leave.snoc (fun u w hu hw => ?_) }
  · rcases List.mem_append.1 hu with h1 | h1
    · exact h.full u h1
    · rw [List.mem_singleton.1 h1]; exact hk
  · have hun : u < n := h.lt u (hperm.mem_iff.2 (List.mem_append_left _ hu))
    have hf : T.getD u 0 = (N.getD u []).length := by
      rcases List.mem_append.1 hu with h1 | h1
      · exact h.full u h1
      · rw [List.mem_singleton.1 h1]; exact hk
    have h2 := h.arcs u hun w (by rw [hf, List.take_length]; exact hA u hun w hw)
    rcases (hmem w).1 h2 with h3 | h3
    · exact .inl h3
    · right
      have := (List.pairwise_append.1 h.path).2.2 w h3 v (by simp)
      exact this
/-- How much is still to be done. -/
def dfsLeft (N : List (List Nat)) (n : Nat) (T S : List Nat) : Nat := 2 * ((List.range n).map fun u => (N.getD u []).length - T.getD u 0).sum + S.length
theorem sum_set (n : Nat) (f g : Nat → Nat) (v : Nat) (hv : v < n) (h1 : g v + 1 = f v) (h2 : ∀ u, u ≠ v → g u = f u) : ((List.range n).map g).sum + 1 = ((List.range n).map f).sum := by
  induction n with
  | zero => omega
  | succ n ih =>
    rw [List.range_succ, List.map_append, List.map_append, List.sum_append, List.sum_append]
    simp only [List.map_cons, List.map_nil, List.sum_cons, List.sum_nil]
    by_cases e : v = n
    · subst e
      have : (List.range v).map g = (List.range v).map f := List.map_congr_left (fun u hu => h2 u (by have := List.mem_range.1 hu; omega))
      rw [this]; omega
    · have := ih (by omega)
      rw [h2 n (fun e2 => e e2.symm)]; omega
theorem dfsLeft_take (N : List (List Nat)) (n : Nat) (T S : List Nat) (v : Nat) (hv : v < n) (hl : T.length = n) (hk : T.getD v 0 < (N.getD v []).length) : dfsLeft N n (T.set v (T.getD v 0 + 1)) S + 2 = dfsLeft N n T S := by
  unfold dfsLeft
  have := sum_set n (fun u => (N.getD u []).length - T.getD u 0) (fun u => (N.getD u []).length - (T.set v (T.getD v 0 + 1)).getD u 0) v hv (by
    simp only [getD_set_self _ _ _ _ (show v < T.length by omega)]; omega) (fun u hu => by simp only [getD_set_ne _ _ _ _ _ (fun e => hu e.symm)])
  omega
/-- The order of leaving is good for the parts. -/
structure LeaveOk (A : Arcs) (n : Nat) (L : List Nat) : Prop where
  leave : Leave A L
  nd : L.Nodup
  lt : ∀ v ∈ L, v < n
  all : ∀ v, v < n → v ∈ L
theorem Dfs.ok {A : Arcs} {N : List (List Nat)} {n : Nat} {L T : List Nat} {V : List Bool} (h : Dfs A N n L [] T V) (hs : ∀ v, v < n → V.getD v false = true) : LeaveOk A n L := by
  refine ⟨h.leave, by have := h.nd; rw [List.append_nil] at this; exact this, fun v hv => h.lt v (by simp [hv]), fun v hv => ?_⟩
  rcases (h.seen v hv).1 (hs v hv) with h1 | h1
  · exact h1
  · simp at h1
end Go.Proofs.YtmnhnighlgpjmaaGreat

namespace Go.Proofs.YtmnhnighlgpjmaaGreat
set_option linter.unusedVariables false
set_option linter.unusedSimpArgs false

def swapL (h : List Nat) (i j : Nat) : List Nat := (h.set i (h.getD j 0)).set j (h.getD i 0)
theorem swapL_length (h : List Nat) (i j : Nat) : (swapL h i j).length = h.length := by simp [swapL]
theorem swapL_get (h : List Nat) {i j : Nat} (hi : i < h.length) (hj : j < h.length) (k : Nat) : (swapL h i j).getD k 0 = if k = j then h.getD i 0 else if k = i then h.getD j 0 else h.getD k 0 := by
  unfold swapL
  by_cases e : k = j
  · subst e
    rw [if_pos rfl]; exact getD_set_self _ _ _ _ (by rw [List.length_set]; exact hj)
  · rw [if_neg e, getD_set_ne _ _ _ _ _ (fun h => e h.symm)]
    by_cases e2 : k = i
    · subst e2
      rw [if_pos rfl]; exact getD_set_self _ _ _ _ hi
    · rw [if_neg e2, getD_set_ne _ _ _ _ _ (fun h => e2 h.symm)]
theorem swapL_perm (h : List Nat) {i j : Nat} (hi : i < h.length) (hj : j < h.length) : (swapL h i j).Perm h := by
  rw [List.perm_iff_count]
  intro a
  have key : ∀ (l : List Nat) (k x : Nat), k < l.length → (l.set k x).count a + (if l.getD k 0 = a then 1 else 0) = l.count a + (if x = a then 1 else 0) := by
    intro l
    induction l with
    | nil => intro k x hk; simp at hk
    | cons b l ih =>
      intro k x hk
      cases k with
      | zero =>
        simp only [List.set_cons_zero, List.count_cons, List.getD_cons_zero, beq_iff_eq]
        omega
      | succ k =>
        have := ih k x (by simpa using hk)
        simp only [List.set_cons_succ, List.count_cons, List.getD_cons_succ]
        omega
  unfold swapL
  have h1 := key h i (h.getD j 0) hi
  have h2 := key (h.set i (h.getD j 0)) j (h.getD i 0) (by rw [List.length_set]; exact hj)
  by_cases e : i = j
  · subst e
    rw [getD_set_self _ _ _ _ hi] at h2
    omega
  · rw [getD_set_ne _ _ _ _ _ e] at h2
    omega
def Heap (h : List Nat) (n : Nat) : Prop := ∀ k, 0 < k → k < n → h.getD ((k - 1) / 2) 0 ≤ h.getD k 0
theorem Heap.min {h : List Nat} {n : Nat} (H : Heap h n) : ∀ k, k < n → h.getD 0 0 ≤ h.getD k 0 := by
  intro k
  induction k using Nat.strongRecOn with
  | ind k ih =>
    intro hk
    by_cases e : k = 0
    · rw [e]; exact Nat.le_refl _
    · exact Nat.le_trans (ih ((k - 1) / 2) (by omega) (by omega)) (H k (by omega) hk)
structure UpOk (h : List Nat) (j : Nat) : Prop where
  a : ∀ k, 0 < k → k < h.length → k ≠ j → h.getD ((k - 1) / 2) 0 ≤ h.getD k 0
  b : ∀ k, 0 < k → k < h.length → (k - 1) / 2 = j → 0 < j → h.getD ((j - 1) / 2) 0 ≤ h.getD k 0
theorem UpOk.start {h : List Nat} (H : Heap h h.length) (x : Nat) : UpOk (h ++ [x]) h.length := by
  have e : ∀ k, k < h.length → (h ++ [x]).getD k 0 = h.getD k 0 := fun k hk => by
    rw [List.getD_eq_getElem?_getD, List.getD_eq_getElem?_getD, List.getElem?_append_left hk]
  refine ⟨fun k h0 hk hn => ?_, fun k h0 hk hp hj => ?_⟩
  · rw [List.length_append, List.length_singleton] at hk
    rw [e _ (by omega), e k (by omega)]
    exact H k h0 (by omega)
  · rw [List.length_append, List.length_singleton] at hk; omega
theorem UpOk.zero {h : List Nat} (H : UpOk h 0) : Heap h h.length := fun k h0 hk => H.a k h0 hk (by omega)
theorem UpOk.stop {h : List Nat} {j : Nat} (H : UpOk h j) (hs : ¬ h.getD j 0 < h.getD ((j - 1) / 2) 0) : Heap h h.length := fun k h0 hk => by
  by_cases e : k = j
  · subst e; omega
  · exact H.a k h0 hk e
theorem UpOk.step {h : List Nat} {j : Nat} (H : UpOk h j) (h0 : 0 < j) (hj : j < h.length) (hs : h.getD j 0 < h.getD ((j - 1) / 2) 0) : UpOk (swapL h ((j - 1) / 2) j) ((j - 1) / 2) := by
  have hi : (j - 1) / 2 < h.length := by omega
  have g := swapL_get h hi hj
  refine ⟨fun k k0 hk hn => ?_, fun k k0 hk hp hi0 => ?_⟩
  · rw [swapL_length] at hk
    rw [g, g]
    by_cases e1 : k = j
    · subst e1
      rw [if_pos rfl, if_neg (by omega), if_pos rfl]; omega
    · rw [if_neg e1, if_neg hn]
      by_cases e2 : (k - 1) / 2 = j
      · rw [if_pos e2]; exact H.b k k0 hk e2 h0
      · rw [if_neg e2]
        by_cases e3 : (k - 1) / 2 = (j - 1) / 2
        · rw [if_pos e3]
          have := H.a k k0 hk e1
          rw [e3] at this; omega
        · rw [if_neg e3]; exact H.a k k0 hk e1
  · rw [swapL_length] at hk
    rw [g, g, if_neg (by omega), if_neg (by omega)]
    have h1 := H.a ((j - 1) / 2) hi0 hi (by omega)
    by_cases e1 : k = j
    · rw [if_pos e1]; exact h1
    · rw [if_neg e1, if_neg (by omega)]
      have h2 := H.a k k0 hk e1
      rw [hp] at h2; omega
structure DownOk (h : List Nat) (n i : Nat) : Prop where
  a : ∀ k, 0 < k → k < n → (k - 1) / 2 ≠ i → h.getD ((k - 1) / 2) 0 ≤ h.getD k 0
  b : ∀ k, 0 < k → k < n → (k - 1) / 2 = i → 0 < i → h.getD ((i - 1) / 2) 0 ≤ h.getD k 0
theorem DownOk.start {h : List Nat} {n : Nat} (H : Heap h (n + 1)) (hl : h.length = n + 1) : DownOk (swapL h 0 n) n 0 := by
  have g := swapL_get h (i := 0) (j := n) (by omega) (by omega)
  refine ⟨fun k k0 hk hn => ?_, fun k _ _ _ h0 => by omega⟩
  rw [g, g, if_neg (by omega), if_neg (by omega), if_neg (by omega), if_neg (by omega)]
  exact H k k0 (by omega)
theorem DownOk.leaf {h : List Nat} {n i : Nat} (H : DownOk h n i) (hi : n ≤ 2 * i + 1) : Heap h n := fun k k0 hk => H.a k k0 hk (by omega)
theorem DownOk.stop {h : List Nat} {n i j : Nat} (H : DownOk h n i) (hj : ∀ k, 0 < k → k < n → (k - 1) / 2 = i → h.getD j 0 ≤ h.getD k 0) (hs : ¬ h.getD j 0 < h.getD i 0) : Heap h n := fun k k0 hk => by
  by_cases e : (k - 1) / 2 = i
  · have := hj k k0 hk e
    rw [e]; omega
  · exact H.a k k0 hk e
theorem DownOk.step {h : List Nat} {n i j : Nat} (H : DownOk h n i) (hn : n ≤ h.length) (hjn : j < n) (hj0 : 0 < j) (hp : (j - 1) / 2 = i) (hj : ∀ k, 0 < k → k < n → (k - 1) / 2 = i → h.getD j 0 ≤ h.getD k 0) (hs : h.getD j 0 < h.getD i 0) : DownOk (swapL h i j) n j := by
  have g := swapL_get h (i := i) (j := j) (by omega) (by omega)
  refine ⟨fun k k0 hk hne => ?_, fun k k0 hk hpk _ => ?_⟩
  · rw [g, g, if_neg hne]
    by_cases e1 : (k - 1) / 2 = i
    · rw [if_pos e1]
      by_cases e2 : k = j
      · rw [if_pos e2]; omega
      · rw [if_neg e2, if_neg (by omega)]; exact hj k k0 hk e1
    · rw [if_neg e1]
      have e2 : k ≠ j := fun e => e1 (by rw [e]; exact hp)
      rw [if_neg e2]
      by_cases e3 : k = i
      · rw [if_pos e3]
        have h1 := H.b j hj0 hjn hp (by omega)
        rw [e3]; exact h1
      · rw [if_neg e3]; exact H.a k k0 hk e1
  · rw [g, g, hp, if_neg (by omega), if_pos rfl, if_neg (by omega), if_neg (by omega)]
    have h1 := H.a k k0 hk (by omega)
    rw [hpk] at h1; exact h1
/-- The swaps of down leave what stands behind n. -/
theorem swapL_last (h : List Nat) {i j n : Nat} (hi : i < n) (hj : j < n) (hn : n < h.length) : (swapL h i j).getD n 0 = h.getD n 0 := by
  rw [swapL_get h (by omega) (by omega), if_neg (by omega), if_neg (by omega)]
theorem heap_take {h : List Nat} {n : Nat} (H : Heap h n) (hl : h.length = n + 1) : Heap (h.take n) (h.take n).length := by
  intro k k0 hk
  rw [List.length_take] at hk
  have e : ∀ i, i < n → (h.take n).getD i 0 = h.getD i 0 := fun i hi => by
    rw [List.getD_eq_getElem?_getD, List.getD_eq_getElem?_getD, List.getElem?_take, if_pos hi]
  rw [e _ (by omega), e k (by omega)]
  exact H k k0 (by omega)
theorem split_last {h : List Nat} {n : Nat} (hl : h.length = n + 1) : h = h.take n ++ [h.getD n 0] := by
  have h1 : (h.take (n + 1)) = h.take n ++ [h.getD n 0] := by
    rw [List.take_succ_eq_append_getElem (by omega), List.getD_eq_getElem?_getD, List.getElem?_eq_getElem (by omega)]; rfl
  rw [List.take_of_length_le (by omega)] at h1
  exact h1
end Go.Proofs.YtmnhnighlgpjmaaGreat
