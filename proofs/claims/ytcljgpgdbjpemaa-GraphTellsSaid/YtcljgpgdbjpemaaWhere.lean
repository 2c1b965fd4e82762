/-
  The law's where: for each node the index of its part.
-/
import Derived.Test.YtcljgpgdbjpemaaLawZ
namespace Go.Proofs.Ytcljgpgdbjpemaa
set_option linter.unusedVariables false
set_option linter.unusedSimpArgs false
open Go.RowKit

structure Wh (N : Nat) (P : List (List Nat)) (k j : Nat) (T : List Int) : Prop where
  len : T.length = N
  done : ∀ (i : Nat) (p : List Nat) (v : Nat), i < k → P[i]? = some p → v ∈ p → T.getD v 0 = i
  cur : ∀ (p : List Nat) (v : Nat), P[k]? = some p → v ∈ p.take j → T.getD v 0 = k
  free : ∀ (i : Nat) (p : List Nat) (v : Nat), k < i → P[i]? = some p → v ∈ p → T.getD v 0 = -1
  rest : ∀ (p : List Nat) (v : Nat), P[k]? = some p → v ∈ p.drop j → T.getD v 0 = -1
structure PartsFit (N : Nat) (P : List (List Nat)) : Prop where
  lt : ∀ p ∈ P, ∀ x ∈ p, x < N
  asc : ∀ p ∈ P, p.Pairwise (· < ·)
  one : ∀ (i j : Nat) (p q : List Nat) (v : Nat), P[i]? = some p → P[j]? = some q → v ∈ p → v ∈ q → i = j
theorem partsFit (A : Arcs) (N : Nat) : PartsFit N (partsOf A N) := by
  have h := partsOf_ok A N
  refine ⟨fun p hp x hx => ?_, fun p hp => ?_, fun i j p q v hi hj hp hq => ?_⟩
  · obtain ⟨v, _, rfl⟩ := h.each p hp
    exact (mem_partOf.1 hx).1
  · obtain ⟨v, _, rfl⟩ := h.each p hp
    exact partOf_asc0 _ _ _
  · have hnd := h.nd
    rw [List.pairwise_iff_getElem] at hnd
    have hi2 := List.getElem?_eq_some_iff.1 hi
    have hj2 := List.getElem?_eq_some_iff.1 hj
    rcases Nat.lt_trichotomy i j with e | e | e
    · exact absurd hq (hj2.2 ▸ hnd i j hi2.1 hj2.1 e v (hi2.2.symm ▸ hp))
    · exact e
    · exact absurd hp (hi2.2 ▸ hnd j i hj2.1 hi2.1 e v (hj2.2.symm ▸ hq))
theorem PartsFit.len {N : Nat} {P : List (List Nat)} (h : PartsFit N P) {p : List Nat} (hp : p ∈ P) : p.length ≤ N := nodup_le N p ((h.asc p hp).imp (fun h => Nat.ne_of_lt h)) (h.lt p hp)
theorem Wh.start {N : Nat} {P : List (List Nat)} {T : List Int} (hP : PartsFit N P) (hl : T.length = N) (h : ∀ v, v < N → T.getD v 0 = -1) : Wh N P 0 0 T :=
  ⟨hl, fun i p v hi => by omega, fun p v _ hv => by simp at hv, fun i p v _ hp hv => h v (hP.lt p (List.mem_of_getElem? hp) v hv), fun p v hp hv => h v (hP.lt p (List.mem_of_getElem? hp) v (List.mem_of_mem_drop hv))⟩
theorem Wh.step {N k j : Nat} {P : List (List Nat)} {T : List Int} {p : List Nat} (W : Wh N P k j T) (hP : PartsFit N P) (hp : P[k]? = some p) (hj : j < p.length) : T.getD p[j] 0 = -1 ∧ p[j] < N ∧ Wh N P k (j + 1) (T.set p[j] (k : Int)) := by
  have hpm := List.mem_of_getElem? hp
  have hx : p[j] < N := hP.lt p hpm _ (List.getElem_mem hj)
  have hdrop : p.drop j = p[j] :: p.drop (j + 1) := List.drop_eq_getElem_cons hj
  have hnd : p.Nodup := (hP.asc p hpm).imp (fun h => Nat.ne_of_lt h)
  have hset : ∀ v, v ≠ p[j] → (T.set p[j] (k : Int)).getD v 0 = T.getD v 0 := fun v hv => getD_set_ne _ _ _ _ _ (fun e => hv e.symm)
  refine ⟨W.rest p _ hp (by rw [hdrop]; exact List.mem_cons_self), hx, ⟨by rw [List.length_set]; exact W.len, fun i q v hi hq hv => ?_, fun q v hq hv => ?_, fun i q v hi hq hv => ?_, fun q v hq hv => ?_⟩⟩
  · rw [hset v (fun e => by have := hP.one i k q p v hq hp hv (e ▸ List.getElem_mem hj); omega)]
    exact W.done i q v hi hq hv
  · rw [hp] at hq; injection hq with hq; subst hq
    rw [List.take_succ_eq_append_getElem hj] at hv
    by_cases e : v = p[j]
    · rw [e]; exact getD_set_self _ _ _ _ (by rw [W.len]; exact hx)
    · rw [hset v e]
      rcases List.mem_append.1 hv with h | h
      · exact W.cur p v hp h
      · exact absurd (List.mem_singleton.1 h) e
  · rw [hset v (fun e => by have := hP.one i k q p v hq hp hv (e ▸ List.getElem_mem hj); omega)]
    exact W.free i q v hi hq hv
  · rw [hp] at hq; injection hq with hq; subst hq
    have hvn : v ≠ p[j] := fun e => by
      have h2 : (p.drop j).Nodup := hnd.sublist (List.drop_sublist j p)
      rw [hdrop] at h2
      exact (List.nodup_cons.1 h2).1 (e ▸ hv)
    rw [hset v hvn]
    exact W.rest p v hp (by rw [hdrop]; exact List.mem_cons_of_mem _ hv)
theorem Wh.next {N k : Nat} {P : List (List Nat)} {T : List Int} {p : List Nat} (W : Wh N P k p.length T) (hp : P[k]? = some p) : Wh N P (k + 1) 0 T := by
  refine ⟨W.len, fun i q v hi hq hv => ?_, fun q v _ hv => by simp at hv, fun i q v hi hq hv => W.free i q v (by omega) hq hv, fun q v hq hv => W.free (k + 1) q v (by omega) hq (List.mem_of_mem_drop hv)⟩
  by_cases e : i = k
  · subst e
    rw [hp] at hq; injection hq with hq; subst hq
    exact W.cur p v hp (by rw [List.take_length]; exact hv)
  · exact W.done i q v (by omega) hq hv
def WherePost (N : Nat) (P : List (List Nat)) (w : World) (e : Ending) (w' : World) : Prop := ∃ u T, e = .returned u ∧ OwnI w' w.heap.size u T ∧ T.length = N ∧ (∀ (i : Nat) (p : List Nat) (v : Nat), P[i]? = some p → v ∈ p → T.getD v 0 = i) ∧ Below w.heap.size w w'
theorem WherePost.mk {N : Nat} {P : List (List Nat)} {w w' : World} {e : Ending} (u : Value) (T : List Int) (h1 : e = .returned u) (h2 : OwnI w' w.heap.size u T) (h3 : T.length = N) (h4 : ∀ (i : Nat) (p : List Nat) (v : Nat), P[i]? = some p → v ∈ p → T.getD v 0 = i) (h5 : Below w.heap.size w w') : WherePost N P w e w' := ⟨u, T, h1, h2, h3, h4, h5⟩
def W1Rel (N g : Nat) (w : World) (i : Value) (wl : World) : Prop := ∃ (k : Nat) (T : List Int), i = .int .i64 k ∧ k ≤ N ∧ T.length = N ∧ (∀ v, v < k → T.getD v 0 = -1) ∧ OwnI wl w.heap.size (.slice (some ⟨g, 0, none⟩) N N) T ∧ Below w.heap.size w wl
def W2Rel (N g : Nat) (P : List (List Nat)) (w : World) (i : Value) (wl : World) : Prop := ∃ (k : Nat) (T : List Int), i = .int .i64 k ∧ k ≤ P.length ∧ Wh N P k 0 T ∧ OwnI wl w.heap.size (.slice (some ⟨g, 0, none⟩) N N) T ∧ Below w.heap.size w wl
def W3Rel (N g k m : Nat) (P : List (List Nat)) (w : World) (i : Value) (wl : World) : Prop := ∃ (j : Nat) (T : List Int), i = .int .i64 j ∧ j ≤ m ∧ Wh N P k j T ∧ OwnI wl w.heap.size (.slice (some ⟨g, 0, none⟩) N N) T ∧ Below w.heap.size w wl
end Go.Proofs.Ytcljgpgdbjpemaa
