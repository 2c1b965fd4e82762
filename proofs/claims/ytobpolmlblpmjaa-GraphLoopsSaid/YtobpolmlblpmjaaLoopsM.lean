/-
  What the law GraphLoops asks of parts and loops.
-/
import Derived.Test.YtobpolmlblpmjaaLawM
namespace Go.Proofs.Ytobpolmlblpmjaa
set_option linter.unusedVariables false
set_option linter.unusedSimpArgs false
open Go.RowKit

def stepC (a : Nat) (s : Nat × Bool) : Nat := if s.2 = true ∧ s.1 < a then s.1 else a
def lstC (m : Nat) (F : List (Nat × Bool)) : Nat := F.foldl stepC m
def flag (l : List Sp) (p : List Nat) (v : Nat) : Nat × Bool := (v, decide (1 < p.length) || arcB l v v)
def FL (l : List Sp) (L : List (List Nat)) : List (Nat × Bool) := L.flatMap fun p => p.map (flag l p)
theorem lstC_snoc (m : Nat) (F : List (Nat × Bool)) (s : Nat × Bool) : lstC m (F ++ [s]) = stepC (lstC m F) s := by simp [lstC]
theorem FL_step (l : List Sp) (p : List Nat) (Y : List (Nat × Bool)) (j : Nat) (hj : j < p.length) : Y ++ (p.take (j + 1)).map (flag l p) = (Y ++ (p.take j).map (flag l p)) ++ [flag l p p[j]] := by
  rw [List.take_succ_eq_append_getElem hj, List.map_append, ← List.append_assoc]; rfl
theorem FL_next (l : List Sp) (L : List (List Nat)) (k : Nat) (hk : k < L.length) : FL l (L.take (k + 1)) = FL l (L.take k) ++ L[k].map (flag l L[k]) := by
  unfold FL
  rw [List.take_succ_eq_append_getElem hk, List.flatMap_append]; simp
theorem lstC_le : ∀ (F : List (Nat × Bool)) (m : Nat), lstC m F ≤ m ∧ (∀ v, (v, true) ∈ F → lstC m F ≤ v) ∧ (lstC m F = m ∨ (lstC m F, true) ∈ F)
  | [], m => ⟨Nat.le_refl _, by simp, .inl rfl⟩
  | s :: F, m => by
    obtain ⟨h1, h2, h3⟩ := lstC_le F (stepC m s)
    have e : lstC m (s :: F) = lstC (stepC m s) F := rfl
    rw [e]
    have h4 : stepC m s ≤ m := by unfold stepC; split <;> omega
    refine ⟨by omega, fun v hv => ?_, ?_⟩
    · rcases List.mem_cons.1 hv with rfl | hv
      · have : stepC m (v, true) ≤ v := by unfold stepC; split <;> simp at * <;> omega
        omega
      · exact h2 v hv
    · rcases h3 with h3 | h3
      · rw [h3]
        unfold stepC
        split
        · rename_i hl
          right
          obtain ⟨a, b⟩ := s
          simp only at hl
          rw [← hl.1]
          exact List.mem_cons_self
        · left; rfl
      · right; exact List.mem_cons_of_mem _ h3
theorem two_of {A : Arcs} {n u v : Nat} (hv : v ∈ partOf A n u) : 1 < (partOf A n u).length ↔ ∃ w, w < n ∧ w ≠ v ∧ eqv A v w := by
  have h3 := mem_partOf.1 hv
  constructor
  · intro h
    have hasc := partOf_asc0 A n u
    have hmem : ∀ x ∈ partOf A n u, x < n ∧ eqv A u x := fun x hx => mem_partOf.1 hx
    generalize partOf A n u = p at *
    match p, h with
    | a :: b :: t, _ =>
      have hab := (List.pairwise_cons.1 hasc).1 b (by simp)
      have ha := hmem a (by simp)
      have hb := hmem b (by simp)
      by_cases e : a = v
      · exact ⟨b, hb.1, by omega, h3.2.symm.trans hb.2⟩
      · exact ⟨a, ha.1, e, h3.2.symm.trans ha.2⟩
  · rintro ⟨w, hw, hwv, he⟩
    have h4 : w ∈ partOf A n u := mem_partOf.2 ⟨hw, h3.2.trans he⟩
    match hl : partOf A n u with
    | [] => rw [hl] at hv; simp at hv
    | [a] => rw [hl] at hv h4; simp at hv h4; omega
    | a :: b :: t => simp
theorem FL_mem {l : List Sp} {n v : Nat} (hri : rightB n l = true) : (v, true) ∈ FL l (partsOf (toA l) n) ↔ v < n ∧ onLoop (toA l) n v := by
  have hP := partsOf_ok (toA l) n
  unfold FL
  rw [List.mem_flatMap]
  constructor
  · rintro ⟨p, hp, hm⟩
    obtain ⟨x, hx, he⟩ := List.mem_map.1 hm
    unfold flag at he
    injection he with e1 e2
    subst e1
    obtain ⟨u, hu, rfl⟩ := hP.each p hp
    refine ⟨(mem_partOf.1 hx).1, ?_⟩
    rw [Bool.or_eq_true, decide_eq_true_iff] at e2
    rcases e2 with e2 | e2
    · exact .inr ((two_of hx).1 e2)
    · exact .inl ((arcB_mem hri).1 e2)
  · rintro ⟨hv, ho⟩
    rcases hP.all v hv with h1 | ⟨p, h1, h2⟩
    · simp at h1
    · refine ⟨p, h1, List.mem_map.2 ⟨v, h2, ?_⟩⟩
      obtain ⟨u, hu, rfl⟩ := hP.each p h1
      unfold flag
      congr 1
      rw [Bool.or_eq_true, decide_eq_true_iff]
      rcases ho with ho | ho
      · exact .inr ((arcB_mem hri).2 ho)
      · exact .inl ((two_of h2).2 ho)
theorem lstC_ok {l : List Sp} {n : Nat} (hri : rightB n l = true) : LeastOn (toA l) n (lstC n (FL l (partsOf (toA l) n))) := by
  obtain ⟨h1, h2, h3⟩ := lstC_le (FL l (partsOf (toA l) n)) n
  refine ⟨h1, fun hm => ?_, fun v hv ho => h2 v ((FL_mem hri).2 ⟨hv, ho⟩)⟩
  rcases h3 with h3 | h3
  · omega
  · exact ((FL_mem hri).1 h3).2
/-- A loop, as the law reads it. -/
structure LoopFit (l : List Sp) (n m : Nat) (p : List Nat) : Prop where
  lt : m < n
  head : p[0]? = some m
  cyc : ∀ (i x y : Nat), p[i]? = some x → p[if i + 1 < p.length then i + 1 else 0]? = some y → arcB l x y = true
  nd : ∀ (i x : Nat), p[i]? = some x → inB (zi (p.take i)) x = false
  len : p.length ≤ n
theorem loop_fit {l : List Sp} {n m : Nat} {p : List Nat} (hri : rightB n l = true) (hm : LeastOn (toA l) n m) (h : LoopOk (toA l) n p) : (m = n ∧ p = []) ∨ LoopFit l n m p := by
  obtain ⟨m', h1, h2⟩ := h
  obtain rfl := hm.unique h1
  rcases h2 with h2 | ⟨h2, q, h3, h4, rfl⟩
  · exact .inl h2
  · right
    have hA := right_toA hri
    have hnd := h3.nodup
    have hq : lst q = m ∧ Fol (toA l) q ∧ ∃ r ∈ succsOf (toA l) m, q[0]? = some r := by
      rcases h3 with ⟨e, _⟩ | ⟨_, g2, g3, g4, _⟩
      · exact absurd e h4
      · exact ⟨g4, g2, g3⟩
    obtain ⟨q1, q2, r, q3, q4⟩ := hq
    have hqe := eq_snoc h4
    rw [q1] at hqe
    obtain ⟨d, hd⟩ : ∃ d, q.dropLast = d := ⟨_, rfl⟩
    rw [hd] at hqe ⊢
    have hF : Fol (toA l) (m :: q) := by
      cases hc : q with
      | nil => exact absurd hc h4
      | cons a t =>
        rw [hc] at q4 q2
        simp at q4
        exact q2.cons (q4 ▸ mem_succsOf.1 q3)
    rw [hqe] at hF hnd
    have hnd2 := List.nodup_append.1 hnd
    have hnp : (m :: d).Nodup := List.nodup_cons.2 ⟨fun h => hnd2.2.2 m h m (by simp) rfl, hnd2.1⟩
    have hget : ∀ (i x : Nat), (m :: d)[i]? = some x → (m :: (d ++ [m]))[i]? = some x := fun i x hx => by
      have : m :: (d ++ [m]) = (m :: d) ++ [m] := rfl
      rw [this, List.getElem?_append_left (List.getElem?_eq_some_iff.1 hx).1]; exact hx
    refine ⟨h2, rfl, fun i x y hx hy => ?_, fun i x hx => ?_, ?_⟩
    · rw [arcB_mem hri]
      have hi := (List.getElem?_eq_some_iff.1 hx).1
      by_cases hl : i + 1 < (m :: d).length
      · rw [if_pos hl] at hy
        exact hF i x y (hget i x hx) (hget (i + 1) y hy)
      · rw [if_neg hl] at hy
        simp at hy
        subst hy
        refine hF i x m (hget i x hx) ?_
        have : m :: (d ++ [m]) = (m :: d) ++ [m] := rfl
        rw [this, List.getElem?_append_right (by omega), show i + 1 - (m :: d).length = 0 by omega]; rfl
    · rw [inB_false]
      intro hm2
      obtain ⟨j, hj, he⟩ := List.getElem_of_mem hm2
      rw [List.length_take] at hj
      rw [List.getElem_take] at he
      have hi := List.getElem?_eq_some_iff.1 hx
      rw [List.nodup_iff_pairwise_ne, List.pairwise_iff_getElem] at hnp
      exact hnp j i (by omega) hi.1 (by omega) (by rw [he, hi.2])
    · have h5 := way_len hA h2 h3
      rw [hqe] at h5
      simpa using h5
theorem IRow.take {w : World} {B n cap : Nat} {A : Option Addr} {l : List Int} (h : IRow w B (.slice A n cap) l) (k : Nat) (hk : k ≤ l.length) : IRow w B (.slice A k cap) (l.take k) := by
  obtain ⟨h1, A2, c2, hv, h2, h3, h4, h5⟩ := h
  injection hv with e1 e2 e3
  subst e1; subst e3
  have hl : (l.take k).length = k := by rw [List.length_take]; omega
  refine ⟨by omega, A, cap, by rw [hl], by omega, h3, h4, fun h0 => ?_⟩
  obtain ⟨b, off, h6, h7, h8⟩ := h5 (by omega)
  exact ⟨b, off, h6, h7, fun i hi => by rw [h8 i (by omega), List.getElem_take]⟩
theorem zi_take (l : List Nat) (k : Nat) : (zi l).take k = zi (l.take k) := by simp [zi, List.map_take]
end Go.Proofs.Ytobpolmlblpmjaa
