/-
  Graphs: the least of the shortest ways, by a search in breadth.
-/
import Derived.Test.YtobpolmlblpmjaaReach
namespace Go.Proofs.Ytobpolmlblpmjaa
set_option linter.unusedVariables false
set_option linter.unusedSimpArgs false

/-- A list follows arcs. -/
def Fol (A : Arcs) (l : List Nat) : Prop := ∀ i x y, l[i]? = some x → l[i + 1]? = some y → (x, y) ∈ A
theorem Fol.one (A : Arcs) (x : Nat) : Fol A [x] := by
  intro i a b h1 h2; simp at h2
theorem Fol.snoc {A : Arcs} {q : List Nat} {u w : Nat} (h : Fol A (q ++ [u])) (hw : (u, w) ∈ A) : Fol A (q ++ [u] ++ [w]) := by
  intro i x y h1 h2
  have hi : i + 1 < (q ++ [u] ++ [w]).length := (List.getElem?_eq_some_iff.1 h2).1
  simp only [List.length_append, List.length_singleton] at hi
  by_cases h3 : i + 1 < (q ++ [u]).length
  · rw [List.getElem?_append_left (by omega)] at h1
    rw [List.getElem?_append_left h3] at h2
    exact h i x y h1 h2
  · simp only [List.length_append, List.length_singleton] at h3
    have hi2 : i = q.length := by omega
    subst hi2
    rw [List.getElem?_append_left (by simp), List.getElem?_append_right (Nat.le_refl _), Nat.sub_self] at h1
    rw [List.getElem?_append_right (by simp)] at h2
    simp at h1 h2
    rw [← h1, ← h2]; exact hw
theorem Fol.pre {A : Arcs} {q r : List Nat} (h : Fol A (q ++ r)) : Fol A q := by
  intro i x y h1 h2
  have hi := (List.getElem?_eq_some_iff.1 h1).1
  have hi2 := (List.getElem?_eq_some_iff.1 h2).1
  exact h i x y (by rw [List.getElem?_append_left hi]; exact h1) (by rw [List.getElem?_append_left hi2]; exact h2)
theorem Fol.post {A : Arcs} {q r : List Nat} (h : Fol A (q ++ r)) : Fol A r := by
  intro i x y h1 h2
  refine h (q.length + i) x y ?_ ?_
  · rw [List.getElem?_append_right (by omega), Nat.add_sub_cancel_left]; exact h1
  · rw [List.getElem?_append_right (by omega), show q.length + i + 1 - q.length = i + 1 by omega]; exact h2
theorem Fol.last {A : Arcs} {q : List Nat} {u w : Nat} (h : Fol A (q ++ [u] ++ [w])) : (u, w) ∈ A :=
  h q.length u w (by simp) (by simp)
theorem Fol.rt {A : Arcs} : ∀ {l : List Nat} {v : Nat}, Fol A (v :: l) → ∀ w ∈ v :: l, RT A v w
  | [], v, h, w, hw => by rw [List.mem_singleton.1 hw]; exact .refl
  | u :: l, v, h, w, hw => by
    rcases List.mem_cons.1 hw with rfl | h2
    · exact .refl
    · have h3 : (v, u) ∈ A := h 0 v u (by simp) (by simp)
      exact (RT.one h3).trans (Fol.rt (l := l) (v := u) (Fol.post (q := [v]) h) w h2)
theorem RT.way {A : Arcs} {v w : Nat} (h : RT A v w) : ∃ l, Fol A (l ++ [w]) ∧ (l ++ [w])[0]? = some v := by
  induction h with
  | refl => exact ⟨[], Fol.one A v, rfl⟩
  | step _ h4 ih =>
    obtain ⟨l, h5, h6⟩ := ih
    refine ⟨l ++ [_], Fol.snoc h5 h4, ?_⟩
    rw [List.getElem?_append_left (by simp)]; exact h6

/-- Lists compared element by element. -/
def lexLt : List Nat → List Nat → Bool
  | [], [] => false
  | [], _ :: _ => true
  | _ :: _, [] => false
  | x :: a, y :: b => if x = y then lexLt a b else decide (x < y)
theorem lex_irr : ∀ a : List Nat, lexLt a a = false
  | [] => rfl
  | x :: a => by unfold lexLt; rw [if_pos rfl]; exact lex_irr a
theorem lex_trans : ∀ {a b c : List Nat}, lexLt a b = true → lexLt b c = true → lexLt a c = true
  | [], [], _, h, _ => by simp [lexLt] at h
  | [], _ :: _, [], _, h2 => by simp [lexLt] at h2
  | [], _ :: _, _ :: _, _, _ => by simp [lexLt]
  | _ :: _, [], _, h, _ => by simp [lexLt] at h
  | _ :: _, _ :: _, [], _, h2 => by simp [lexLt] at h2
  | x :: a, y :: b, z :: c, h, h2 => by
    unfold lexLt at h h2 ⊢
    by_cases e1 : x = y
    · rw [if_pos e1] at h
      by_cases e2 : y = z
      · rw [if_pos e2] at h2
        rw [if_pos (e1.trans e2)]
        exact lex_trans h h2
      · rw [if_neg e2] at h2
        rw [if_neg (by omega)]
        simp at h2 ⊢; omega
    · rw [if_neg e1] at h
      by_cases e2 : y = z
      · rw [if_pos e2] at h2
        rw [if_neg (by omega)]
        simp at h ⊢; omega
      · rw [if_neg e2] at h2
        simp at h h2
        rw [if_neg (by omega)]
        simp; omega
theorem lex_tri : ∀ a b : List Nat, lexLt a b = true ∨ a = b ∨ lexLt b a = true
  | [], [] => .inr (.inl rfl)
  | [], _ :: _ => .inl rfl
  | _ :: _, [] => .inr (.inr rfl)
  | x :: a, y :: b => by
    unfold lexLt
    by_cases e : x = y
    · subst e
      simp only [if_true]
      rcases lex_tri a b with h | h | h
      · exact .inl h
      · exact .inr (.inl (by rw [h]))
      · exact .inr (.inr h)
    · rw [if_neg e, if_neg (by omega)]
      simp only [decide_eq_true_iff]
      omega
theorem lex_asymm {a b : List Nat} (h : lexLt a b = true) : lexLt b a = false := by
  cases h2 : lexLt b a
  · rfl
  · have := lex_trans h h2
    rw [lex_irr] at this; cases this
theorem lex_snoc : ∀ {a b : List Nat} (x y : Nat), a.length = b.length → lexLt a b = true → lexLt (a ++ [x]) (b ++ [y]) = true
  | [], [], _, _, _, h => by simp [lexLt] at h
  | [], _ :: _, _, _, h, _ => by simp at h
  | _ :: _, [], _, _, h, _ => by simp at h
  | u :: a, v :: b, x, y, hl, h => by
    simp only [List.cons_append]
    unfold lexLt at h ⊢
    by_cases e : u = v
    · rw [if_pos e] at h ⊢
      exact lex_snoc x y (by simpa using hl) h
    · rw [if_neg e] at h ⊢; exact h
theorem lex_same : ∀ (a : List Nat) (x y : Nat), lexLt (a ++ [x]) (a ++ [y]) = decide (x < y)
  | [], x, y => by
    simp only [List.nil_append]
    unfold lexLt
    by_cases e : x = y
    · subst e; simp [lexLt]
    · rw [if_neg e]
  | u :: a, x, y => by
    simp only [List.cons_append]
    unfold lexLt
    rw [if_pos rfl]
    exact lex_same a x y
/-- The order of ways: those with fewer nodes first, then the lesser ones. -/
def sl (a b : List Nat) : Prop := a.length < b.length ∨ (a.length = b.length ∧ lexLt a b = true)
theorem sl_irr (a : List Nat) : ¬ sl a a := by
  rintro (h | ⟨_, h⟩)
  · omega
  · rw [lex_irr] at h; cases h
theorem sl_trans {a b c : List Nat} (h : sl a b) (h2 : sl b c) : sl a c := by
  rcases h with h | ⟨h, h3⟩ <;> rcases h2 with h2 | ⟨h2, h4⟩
  · exact .inl (by omega)
  · exact .inl (by omega)
  · exact .inl (by omega)
  · exact .inr ⟨by omega, lex_trans h3 h4⟩
theorem sl_asymm {a b : List Nat} (h : sl a b) : ¬ sl b a := fun h2 => sl_irr a (sl_trans h h2)
theorem sl_tri (a b : List Nat) : sl a b ∨ a = b ∨ sl b a := by
  rcases Nat.lt_trichotomy a.length b.length with h | h | h
  · exact .inl (.inl h)
  · rcases lex_tri a b with h2 | h2 | h2
    · exact .inl (.inr ⟨h, h2⟩)
    · exact .inr (.inl h2)
    · exact .inr (.inr (.inr ⟨h.symm, h2⟩))
  · exact .inr (.inr (.inl h))
theorem sl_snoc {a b : List Nat} (x y : Nat) (h : sl a b) : sl (a ++ [x]) (b ++ [y]) := by
  rcases h with h | ⟨h, h2⟩
  · exact .inl (by simp; omega)
  · exact .inr ⟨by simp [h], lex_snoc x y h h2⟩
theorem sl_same {a : List Nat} {x y : Nat} (h : x < y) : sl (a ++ [x]) (a ++ [y]) := .inr ⟨by simp, by rw [lex_same]; simpa using h⟩

def lst (p : List Nat) : Nat := p.getLastD 0
@[simp] theorem lst_snoc (q : List Nat) (w : Nat) : lst (q ++ [w]) = w := by unfold lst; simp
@[simp] theorem lst_one (w : Nat) : lst [w] = w := rfl
theorem eq_snoc {p : List Nat} (h : p ≠ []) : p = p.dropLast ++ [lst p] := by
  have := List.dropLast_concat_getLast h
  unfold lst
  rw [List.getLastD_eq_getLast?, List.getLast?_eq_some_getLast h]
  exact this.symm
/-- The state of a search: the ways to the nodes of the queue; the first i of them are done, of the next one the arcs to T. -/
structure Bfs (A : Arcs) (R : List Nat) (P : List (List Nat)) (i : Nat) (T : List Nat) : Prop where
  ne : ∀ p ∈ P, p ≠ []
  fol : ∀ p ∈ P, Fol A p
  beg : ∀ p ∈ P, ∃ r ∈ R, p[0]? = some r
  nd : (P.map lst).Nodup
  pc : ∀ p ∈ P, p.length = 1 ∨ ∃ j q, P[j]? = some q ∧ j ≤ i ∧ p = q ++ [lst p] ∧ (j = i → lst p ∈ T)
  ord : P.Pairwise sl
  rt : ∀ r ∈ R, [r] ∈ P
  done : ∀ j q, j < i → P[j]? = some q → ∀ w, (lst q, w) ∈ A → ∃ p ∈ P, lst p = w ∧ ¬ sl (q ++ [w]) p
  cur : ∀ q, P[i]? = some q → ∀ w ∈ T, ∃ p ∈ P, lst p = w ∧ ¬ sl (q ++ [w]) p

theorem nodup_snoc {α : Type} {l : List α} {a : α} (h : l.Nodup) (ha : a ∉ l) : (l ++ [a]).Nodup := by
  rw [List.nodup_append]
  exact ⟨h, by simp, fun x hx y hy => by rw [List.mem_singleton.1 hy]; exact fun e => ha (e ▸ hx)⟩
/-- The roots, ascending and each once. -/
theorem Bfs.start (A : Arcs) {R L : List Nat} (h1 : ∀ r, r ∈ L ↔ r ∈ R) (h2 : L.Pairwise (· < ·)) : Bfs A R (L.map fun r => [r]) 0 [] where
  ne := fun p hp => by obtain ⟨r, _, rfl⟩ := List.mem_map.1 hp; simp
  fol := fun p hp => by obtain ⟨r, _, rfl⟩ := List.mem_map.1 hp; exact Fol.one A r
  beg := fun p hp => by obtain ⟨r, hr, rfl⟩ := List.mem_map.1 hp; exact ⟨r, (h1 r).1 hr, rfl⟩
  nd := by
    rw [List.map_map]
    have : (lst ∘ fun r => [r]) = id := by funext r; rfl
    rw [this, List.map_id]
    exact h2.imp (fun h => by omega)
  pc := fun p hp => by obtain ⟨r, _, rfl⟩ := List.mem_map.1 hp; exact .inl rfl
  ord := by
    rw [List.pairwise_map]
    exact h2.imp (fun h => sl_same (a := []) h)
  rt := fun r hr => List.mem_map.2 ⟨r, (h1 r).2 hr, rfl⟩
  done := fun j q hj => by omega
  cur := fun q _ w hw => by simp at hw
/-- A node that is in the queue. -/
theorem Bfs.old {A : Arcs} {R : List Nat} {P : List (List Nat)} {i : Nat} {T : List Nat} (h : Bfs A R P i T) {q : List Nat} {w : Nat} (hq : P[i]? = some q) (hw : w ∈ P.map lst) : Bfs A R P i (T ++ [w]) := by
  refine { h with pc := fun p hp => ?_, cur := fun q2 hq2 x hx => ?_ }
  · rcases h.pc p hp with h1 | ⟨j, q, h1, h2, h3, h4⟩
    · exact .inl h1
    · exact .inr ⟨j, q, h1, h2, h3, fun e => by simp [h4 e]⟩
  · rcases List.mem_append.1 hx with hx | hx
    · exact h.cur q2 hq2 x hx
    · rw [List.mem_singleton.1 hx]
      rw [hq] at hq2; injection hq2 with hq2; subst hq2
      obtain ⟨p, hp, hpw⟩ := List.mem_map.1 hw
      refine ⟨p, hp, hpw, ?_⟩
      have hqn : 0 < q.length := List.length_pos_iff.2 (h.ne q (List.mem_of_getElem? hq))
      rcases h.pc p hp with h1 | ⟨j, q2, h1, h2, h3, _⟩
      · rintro (h5 | ⟨h5, _⟩) <;> simp at h5 <;> omega
      · rw [h3, hpw]
        rcases Nat.lt_or_eq_of_le h2 with h6 | h6
        · obtain ⟨_, e1⟩ := List.getElem?_eq_some_iff.1 h1
          obtain ⟨_, e2⟩ := List.getElem?_eq_some_iff.1 hq
          have := List.pairwise_iff_getElem.1 h.ord j i (by assumption) (by assumption) h6
          rw [e1, e2] at this
          exact sl_asymm (sl_snoc w w this)
        · subst h6
          rw [hq] at h1; injection h1 with h1; subst h1
          exact sl_irr _
/-- A node that is new. -/
theorem Bfs.new {A : Arcs} {R : List Nat} {P : List (List Nat)} {i : Nat} {T : List Nat} (h : Bfs A R P i T) {q : List Nat} {w : Nat} (hq : P[i]? = some q) (hw : w ∉ P.map lst) (ha : (lst q, w) ∈ A) (hT : ∀ t ∈ T, t ≤ w) : Bfs A R (P ++ [q ++ [w]]) i (T ++ [w]) := by
  have hqm := List.mem_of_getElem? hq
  have hqn : 0 < q.length := List.length_pos_iff.2 (h.ne q hqm)
  obtain ⟨hi, hq2⟩ := List.getElem?_eq_some_iff.1 hq
  have up : ∀ {j : Nat} {x : List Nat}, P[j]? = some x → (P ++ [q ++ [w]])[j]? = some x := fun {j x} hx => by
    rw [List.getElem?_append_left (List.getElem?_eq_some_iff.1 hx).1]; exact hx
  have dn : ∀ {j : Nat} {x : List Nat}, j ≤ i → (P ++ [q ++ [w]])[j]? = some x → P[j]? = some x := fun {j x} hj hx => by
    rw [List.getElem?_append_left (by omega)] at hx; exact hx
  refine ⟨fun p hp => ?_, fun p hp => ?_, fun p hp => ?_, ?_, fun p hp => ?_, ?_, fun r hr => ?_, fun j q3 hj hq3 x hx => ?_, fun q3 hq3 x hx => ?_⟩
  · rcases List.mem_append.1 hp with h1 | h1
    · exact h.ne p h1
    · rw [List.mem_singleton.1 h1]; simp
  · rcases List.mem_append.1 hp with h1 | h1
    · exact h.fol p h1
    · rw [List.mem_singleton.1 h1]
      have e := eq_snoc (h.ne q hqm)
      rw [e]
      exact Fol.snoc (e ▸ h.fol q hqm) ha
  · rcases List.mem_append.1 hp with h1 | h1
    · exact h.beg p h1
    · rw [List.mem_singleton.1 h1, List.getElem?_append_left hqn]
      exact h.beg q hqm
  · rw [List.map_append]
    simp only [List.map_cons, List.map_nil, lst_snoc]
    exact nodup_snoc h.nd hw
  · rcases List.mem_append.1 hp with h1 | h1
    · rcases h.pc p h1 with h2 | ⟨j, q3, h2, h3, h4, h5⟩
      · exact .inl h2
      · exact .inr ⟨j, q3, up h2, h3, h4, fun e => by simp [h5 e]⟩
    · rw [List.mem_singleton.1 h1]
      exact .inr ⟨i, q, up hq, Nat.le_refl _, by simp, fun _ => by simp⟩
  · rw [List.pairwise_append]
    refine ⟨h.ord, by simp, fun p hp x hx => ?_⟩
    rw [List.mem_singleton.1 hx]
    rcases h.pc p hp with h1 | ⟨j, q3, h1, h2, h3, h4⟩
    · exact .inl (by simp; omega)
    · rw [h3]
      rcases Nat.lt_or_eq_of_le h2 with h6 | h6
      · obtain ⟨hj, e1⟩ := List.getElem?_eq_some_iff.1 h1
        have := List.pairwise_iff_getElem.1 h.ord j i hj hi h6
        rw [e1, hq2] at this
        exact sl_snoc _ _ this
      · have h7 := hT _ (h4 h6)
        have h8 : lst p ≠ w := fun e => hw (e ▸ List.mem_map_of_mem hp)
        subst h6
        rw [hq] at h1; injection h1 with h1; subst h1
        exact sl_same (by omega)
  · exact List.mem_append_left _ (h.rt r hr)
  · obtain ⟨p, hp, h2⟩ := h.done j q3 hj (dn (by omega) hq3) x hx
    exact ⟨p, List.mem_append_left _ hp, h2⟩
  · have hq4 := dn (Nat.le_refl _) hq3
    rcases List.mem_append.1 hx with hx | hx
    · obtain ⟨p, hp, h2⟩ := h.cur q3 hq4 x hx
      exact ⟨p, List.mem_append_left _ hp, h2⟩
    · rw [List.mem_singleton.1 hx]
      rw [hq] at hq4; injection hq4 with hq4; subst hq4
      exact ⟨q ++ [w], by simp, by simp, sl_irr _⟩
/-- All arcs of a node are done. -/
theorem Bfs.next {A : Arcs} {R : List Nat} {P : List (List Nat)} {i : Nat} {T : List Nat} (h : Bfs A R P i T) {q : List Nat} (hq : P[i]? = some q) (hT : ∀ w, (lst q, w) ∈ A → w ∈ T) : Bfs A R P (i + 1) [] := by
  refine { h with pc := fun p hp => ?_, done := fun j q3 hj hq3 x hx => ?_, cur := fun q3 _ w hw => by simp at hw }
  · rcases h.pc p hp with h2 | ⟨j, q3, h2, h3, h4, h5⟩
    · exact .inl h2
    · exact .inr ⟨j, q3, h2, by omega, h4, fun e => by omega⟩
  · by_cases e : j < i
    · exact h.done j q3 e hq3 x hx
    · have : j = i := by omega
      subst this
      have e2 := hq
      rw [hq3] at e2; injection e2 with e2; subst e2
      exact h.cur q3 hq3 x (hT x hx)
/-- The end: to each node that is reached, the least of the shortest ways. -/
structure Ways (A : Arcs) (R : List Nat) (P : List (List Nat)) : Prop where
  ne : ∀ p ∈ P, p ≠ []
  fol : ∀ p ∈ P, Fol A p
  beg : ∀ p ∈ P, ∃ r ∈ R, p[0]? = some r
  nd : (P.map lst).Nodup
  pc : ∀ p ∈ P, p.length = 1 ∨ ∃ q ∈ P, p = q ++ [lst p]
  all : ∀ l : List Nat, l ≠ [] → Fol A l → (∃ r ∈ R, l[0]? = some r) → ∃ p ∈ P, lst p = lst l ∧ ¬ sl l p
theorem sl_le_snoc {p q : List Nat} (w : Nat) (h : ¬ sl q p) : ¬ sl (q ++ [w]) (p ++ [w]) := by
  rcases sl_tri p q with h2 | h2 | h2
  · exact sl_asymm (sl_snoc w w h2)
  · rw [h2]; exact sl_irr _
  · exact absurd h2 h
theorem sl_le_trans {p q r : List Nat} (h : ¬ sl q p) (h2 : ¬ sl r q) : ¬ sl r p := by
  intro h3
  rcases sl_tri p q with h4 | h4 | h4
  · exact h2 (sl_trans h3 h4)
  · subst h4; exact h2 h3
  · exact h h4
theorem Bfs.ways {A : Arcs} {R : List Nat} {P : List (List Nat)} (h : Bfs A R P P.length []) : Ways A R P := by
  refine ⟨h.ne, h.fol, h.beg, h.nd, fun p hp => ?_, ?_⟩
  · rcases h.pc p hp with h2 | ⟨j, q, h2, _, h4, _⟩
    · exact .inl h2
    · exact .inr ⟨q, List.mem_of_getElem? h2, h4⟩
  · suffices H : ∀ (k : Nat) (l : List Nat), l.length = k → l ≠ [] → Fol A l → (∃ r ∈ R, l[0]? = some r) → ∃ p ∈ P, lst p = lst l ∧ ¬ sl l p from fun l => H l.length l rfl
    intro k
    induction k with
    | zero => intro l h1 h2; exact absurd (List.length_eq_zero_iff.1 h1) h2
    | succ k ih =>
      intro l hl hne hf hr
      have e := eq_snoc hne
      by_cases hd : l.dropLast = []
      · rw [hd] at e
        obtain ⟨r, hr, h3⟩ := hr
        rw [e] at h3
        simp at h3
        refine ⟨[r], h.rt r hr, by rw [← h3]; rfl, ?_⟩
        rw [e, h3]; exact sl_irr _
      · have e2 := eq_snoc hd
        obtain ⟨p, hp, h4, h5⟩ := ih l.dropLast (by simp [hl]) hd (Fol.pre (r := [lst l]) (e ▸ hf)) (by
          obtain ⟨r, hr, h3⟩ := hr
          refine ⟨r, hr, ?_⟩
          rw [e, List.getElem?_append_left (List.length_pos_iff.2 hd)] at h3
          exact h3)
        have ha : (lst p, lst l) ∈ A := by
          rw [h4]
          rw [e2] at e
          exact Fol.last (q := l.dropLast.dropLast) (e ▸ hf)
        obtain ⟨j, hj, hpj⟩ := List.getElem_of_mem hp
        obtain ⟨p2, hp2, h6, h7⟩ := h.done j p hj (by rw [List.getElem?_eq_getElem hj, hpj]) (lst l) ha
        refine ⟨p2, hp2, h6, ?_⟩
        rw [e]
        exact sl_le_trans h7 (sl_le_snoc _ h5)
end Go.Proofs.Ytobpolmlblpmjaa
