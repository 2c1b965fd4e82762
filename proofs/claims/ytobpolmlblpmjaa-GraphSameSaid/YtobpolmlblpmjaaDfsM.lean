/-
  A search in depth: its order of leaving.
-/
import Derived.Test.YtobpolmlblpmjaaAdj
import Derived.Test.YtobpolmlblpmjaaWayM
namespace Go.Proofs.Ytobpolmlblpmjaa
set_option linter.unusedVariables false
set_option linter.unusedSimpArgs false

/-- The state of a search in depth: the nodes that were left, the stack, how many arcs of each node were taken, which nodes were seen. -/
structure Dfs (A : Arcs) (N : List (List Nat)) (n : Nat) (L S T : List Nat) (V : List Bool) : Prop where
  tl : T.length = n
  vl : V.length = n
  seen : ∀ v, v < n → (V.getD v false = true ↔ v ∈ L ∨ v ∈ S)
  nd : (L ++ S).Nodup
  lt : ∀ v ∈ L ++ S, v < n
  le : ∀ u, u < n → T.getD u 0 ≤ (N.getD u []).length
  arcs : ∀ u, u < n → ∀ w ∈ (N.getD u []).take (T.getD u 0), w ∈ L ∨ w ∈ S
  full : ∀ u ∈ L, T.getD u 0 = (N.getD u []).length
  path : S.Pairwise (fun a b => RT A a b)
  leave : Leave A L
theorem getD_rep {α : Type} (n v : Nat) (a b : α) (h : v < n) : (List.replicate n a).getD v b = a := by
  rw [List.getD_eq_getElem?_getD, List.getElem?_replicate, if_pos h]; rfl
theorem getD_set_self {α : Type} (l : List α) (i : Nat) (a b : α) (h : i < l.length) : (l.set i a).getD i b = a := by
  rw [List.getD_eq_getElem?_getD, List.getElem?_set_self h]; rfl
theorem getD_set_ne {α : Type} (l : List α) (i j : Nat) (a b : α) (h : i ≠ j) : (l.set i a).getD j b = l.getD j b := by
  rw [List.getD_eq_getElem?_getD, List.getElem?_set_ne h, ← List.getD_eq_getElem?_getD]
theorem Dfs.start (A : Arcs) (N : List (List Nat)) (n : Nat) : Dfs A N n [] [] (List.replicate n 0) (List.replicate n false) where
  tl := by simp
  vl := by simp
  seen := fun v hv => by rw [getD_rep n v false false hv]; simp
  nd := by simp
  lt := by simp
  le := fun u hu => by rw [getD_rep n u 0 0 hu]; omega
  arcs := fun u hu w hw => by rw [getD_rep n u 0 0 hu] at hw; simp at hw
  full := by simp
  path := by simp
  leave := Leave.nil A
/-- A root that was not seen. -/
theorem Dfs.root {A : Arcs} {N : List (List Nat)} {n : Nat} {L T : List Nat} {V : List Bool} (h : Dfs A N n L [] T V) {r : Nat} (hr : r < n) (hs : V.getD r false = false) : Dfs A N n L [r] T (V.set r true) := by
  have hrn : r ∉ L := fun hm => by have := (h.seen r hr).2 (.inl hm); rw [hs] at this; cases this
  refine { h with vl := by rw [List.length_set]; exact h.vl, seen := fun v hv => ?_, nd := ?_, lt := fun v hv => ?_, arcs := fun u hu w hw => ?_, path := by simp }
  · by_cases e : r = v
    · subst e; rw [getD_set_self _ _ _ _ (by rw [h.vl]; exact hr)]; simp
    · rw [getD_set_ne _ _ _ _ _ e, h.seen v hv]; simp; exact fun e2 => absurd e2.symm e
  · have h1 := h.nd
    rw [List.append_nil] at h1
    exact nodup_snoc h1 hrn
  · rcases List.mem_append.1 hv with h1 | h1
    · exact h.lt v (by simp [h1])
    · rw [List.mem_singleton.1 h1]; exact hr
  · rcases h.arcs u hu w hw with h1 | h1
    · exact .inl h1
    · simp at h1
theorem take_getD (l : List Nat) (k : Nat) (h : k < l.length) : l.take (k + 1) = l.take k ++ [l.getD k 0] := by
  rw [List.take_succ_eq_append_getElem h, List.getD_eq_getElem?_getD, List.getElem?_eq_getElem h]; rfl
/-- An arc to a node that was seen. -/
theorem Dfs.skip {A : Arcs} {N : List (List Nat)} {n : Nat} {L S T : List Nat} {V : List Bool} {v : Nat} (h : Dfs A N n L (S ++ [v]) T V) (hk : T.getD v 0 < (N.getD v []).length) (hw : (N.getD v []).getD (T.getD v 0) 0 < n) (hs : V.getD ((N.getD v []).getD (T.getD v 0) 0) false = true) :
    Dfs A N n L (S ++ [v]) (T.set v (T.getD v 0 + 1)) V := by
  have hv : v < n := h.lt v (by simp)
  have hvL : v ∉ L := fun hm => (List.nodup_append.1 h.nd).2.2 v hm v (by simp) rfl
  refine { h with tl := by rw [List.length_set]; exact h.tl, le := fun u hu => ?_, arcs := fun u hu w hw2 => ?_, full := fun u hu => ?_ }
  · by_cases e : v = u
    · subst e; rw [getD_set_self _ _ _ _ (by rw [h.tl]; exact hv)]; omega
    · rw [getD_set_ne _ _ _ _ _ e]; exact h.le u hu
  · by_cases e : v = u
    · subst e
      rw [getD_set_self _ _ _ _ (by rw [h.tl]; exact hv), take_getD _ _ hk] at hw2
      rcases List.mem_append.1 hw2 with h1 | h1
      · exact h.arcs v hv w h1
      · rw [List.mem_singleton.1 h1]; exact (h.seen _ hw).1 hs
    · rw [getD_set_ne _ _ _ _ _ e] at hw2; exact h.arcs u hu w hw2
  · have e : v ≠ u := fun e => hvL (e ▸ hu)
    rw [getD_set_ne _ _ _ _ _ e]; exact h.full u hu
/-- An arc to a node that was not seen. -/
theorem Dfs.push {A : Arcs} {N : List (List Nat)} {n : Nat} {L S T : List Nat} {V : List Bool} {v w : Nat} (h : Dfs A N n L (S ++ [v]) T V) (hk : T.getD v 0 < (N.getD v []).length) (hwe : (N.getD v []).getD (T.getD v 0) 0 = w) (hw : w < n) (hs : V.getD w false = false) (ha : (v, w) ∈ A) :
    Dfs A N n L (S ++ [v] ++ [w]) (T.set v (T.getD v 0 + 1)) (V.set w true) := by
  have hv : v < n := h.lt v (by simp)
  have hvL : v ∉ L := fun hm => (List.nodup_append.1 h.nd).2.2 v hm v (by simp) rfl
  have hwn : ¬ (w ∈ L ∨ w ∈ S ++ [v]) := fun hm => by have := (h.seen w hw).2 hm; rw [hs] at this; cases this
  refine { h with tl := by rw [List.length_set]; exact h.tl, vl := by rw [List.length_set]; exact h.vl, seen := fun x hx => ?_, nd := ?_, lt := fun x hx => ?_, le := fun u hu => ?_, arcs := fun u hu x hx => ?_, full := fun u hu => ?_, path := ?_ }
  · by_cases e : w = x
    · subst e; rw [getD_set_self _ _ _ _ (by rw [h.vl]; exact hw)]; simp
    · rw [getD_set_ne _ _ _ _ _ e, h.seen x hx]
      constructor
      · rintro (h1 | h1)
        · exact .inl h1
        · exact .inr (List.mem_append_left _ h1)
      · rintro (h1 | h1)
        · exact .inl h1
        · rcases List.mem_append.1 h1 with h2 | h2
          · exact .inr h2
          · exact absurd (List.mem_singleton.1 h2).symm e
  · rw [← List.append_assoc]
    exact nodup_snoc h.nd (fun hm => hwn (List.mem_append.1 hm))
  · rw [← List.append_assoc] at hx
    rcases List.mem_append.1 hx with h1 | h1
    · exact h.lt x h1
    · rw [List.mem_singleton.1 h1]; exact hw
  · by_cases e : v = u
    · subst e; rw [getD_set_self _ _ _ _ (by rw [h.tl]; exact hv)]; omega
    · rw [getD_set_ne _ _ _ _ _ e]; exact h.le u hu
  · have up : x ∈ L ∨ x ∈ S ++ [v] → x ∈ L ∨ x ∈ S ++ [v] ++ [w] := fun h1 => h1.elim .inl (fun h2 => .inr (List.mem_append_left _ h2))
    by_cases e : v = u
    · subst e
      rw [getD_set_self _ _ _ _ (by rw [h.tl]; exact hv), take_getD _ _ hk, hwe] at hx
      rcases List.mem_append.1 hx with h1 | h1
      · exact up (h.arcs v hv x h1)
      · rw [List.mem_singleton.1 h1]; exact .inr (by simp)
    · rw [getD_set_ne _ _ _ _ _ e] at hx; exact up (h.arcs u hu x hx)
  · have e : v ≠ u := fun e => hvL (e ▸ hu)
    rw [getD_set_ne _ _ _ _ _ e]; exact h.full u hu
  · rw [List.pairwise_append]
    refine ⟨h.path, by simp, fun a ha2 b hb => ?_⟩
    rw [List.mem_singleton.1 hb]
    rcases List.mem_append.1 ha2 with h1 | h1
    · exact .step ((List.pairwise_append.1 h.path).2.2 a h1 v (by simp)) ha
    · rw [List.mem_singleton.1 h1]; exact .one ha
/-- The node on top is left. -/
theorem Dfs.pop {A : Arcs} {N : List (List Nat)} {n : Nat} {L S T : List Nat} {V : List Bool} {v : Nat} (h : Dfs A N n L (S ++ [v]) T V) (hA : ∀ u, u < n → ∀ w, (u, w) ∈ A → w ∈ N.getD u []) (hk : T.getD v 0 = (N.getD v []).length) : Dfs A N n (L ++ [v]) S T V := by
  have hperm : (L ++ (S ++ [v])).Perm (L ++ [v] ++ S) := by
    rw [List.append_assoc]
    exact List.Perm.append_left _ List.perm_append_comm
  have hmem : ∀ x, x ∈ L ∨ x ∈ S ++ [v] ↔ x ∈ L ++ [v] ∨ x ∈ S := fun x => by
    simp only [List.mem_append, List.mem_singleton]
    constructor
    · rintro (h1 | h1 | h1)
      · exact .inl (.inl h1)
      · exact .inr h1
      · exact .inl (.inr h1)
    · rintro ((h1 | h1) | h1)
      · exact .inl h1
      · exact .inr (.inr h1)
      · exact .inr (.inl h1)
  refine { h with seen := fun x hx => (h.seen x hx).trans (hmem x), nd := hperm.nodup_iff.1 h.nd, lt := fun x hx => h.lt x (hperm.mem_iff.2 hx), arcs := fun u hu w hw => (hmem w).1 (h.arcs u hu w hw), full := fun u hu => ?_, path := (List.pairwise_append.1 h.path).1, leave := h.leave.snoc (fun u w hu hw => ?_) }
  · rcases List.mem_append.1 hu with h1 | h1
    · exact h.full u h1
    · rw [List.mem_singleton.1 h1]; exact hk
  · have hun : u < n := h.lt u (hperm.mem_iff.2 (List.mem_append_left _ hu))
    have hf : T.getD u 0 = (N.getD u []).length := by
      rcases List.mem_append.1 hu with h1 | h1
      · exact h.full u h1
      · rw [List.mem_singleton.1 h1]; exact hk
    have h2 := h.arcs u hun w (by rw [hf, List.take_length]; exact hA u hun w hw)
    rcases (hmem w).1 h2 with h3 | h3
    · exact .inl h3
    · right
      have := (List.pairwise_append.1 h.path).2.2 w h3 v (by simp)
      exact this
/-- How much is still to be done. -/
def dfsLeft (N : List (List Nat)) (n : Nat) (T S : List Nat) : Nat := 2 * ((List.range n).map fun u => (N.getD u []).length - T.getD u 0).sum + S.length
theorem sum_set (n : Nat) (f g : Nat → Nat) (v : Nat) (hv : v < n) (h1 : g v + 1 = f v) (h2 : ∀ u, u ≠ v → g u = f u) : ((List.range n).map g).sum + 1 = ((List.range n).map f).sum := by
  induction n with
  | zero => omega
  | succ n ih =>
    rw [List.range_succ, List.map_append, List.map_append, List.sum_append, List.sum_append]
    simp only [List.map_cons, List.map_nil, List.sum_cons, List.sum_nil]
    by_cases e : v = n
    · subst e
      have : (List.range v).map g = (List.range v).map f := List.map_congr_left (fun u hu => h2 u (by have := List.mem_range.1 hu; omega))
      rw [this]; omega
    · have := ih (by omega)
      rw [h2 n (fun e2 => e e2.symm)]; omega
theorem dfsLeft_take (N : List (List Nat)) (n : Nat) (T S : List Nat) (v : Nat) (hv : v < n) (hl : T.length = n) (hk : T.getD v 0 < (N.getD v []).length) : dfsLeft N n (T.set v (T.getD v 0 + 1)) S + 2 = dfsLeft N n T S := by
  unfold dfsLeft
  have := sum_set n (fun u => (N.getD u []).length - T.getD u 0) (fun u => (N.getD u []).length - (T.set v (T.getD v 0 + 1)).getD u 0) v hv (by
    simp only [getD_set_self _ _ _ _ (show v < T.length by omega)]; omega) (fun u hu => by simp only [getD_set_ne _ _ _ _ _ (fun e => hu e.symm)])
  omega
/-- The order of leaving is good for the parts. -/
structure LeaveOk (A : Arcs) (n : Nat) (L : List Nat) : Prop where
  leave : Leave A L
  nd : L.Nodup
  lt : ∀ v ∈ L, v < n
  all : ∀ v, v < n → v ∈ L
theorem Dfs.ok {A : Arcs} {N : List (List Nat)} {n : Nat} {L T : List Nat} {V : List Bool} (h : Dfs A N n L [] T V) (hs : ∀ v, v < n → V.getD v false = true) : LeaveOk A n L := by
  refine ⟨h.leave, by have := h.nd; rw [List.append_nil] at this; exact this, fun v hv => h.lt v (by simp [hv]), fun v hv => ?_⟩
  rcases (h.seen v hv).1 (hs v hv) with h1 | h1
  · exact h1
  · simp at h1
end Go.Proofs.Ytobpolmlblpmjaa
