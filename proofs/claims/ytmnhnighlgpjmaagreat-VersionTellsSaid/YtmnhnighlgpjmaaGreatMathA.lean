/-
  Graphs: what is reached.
  Graphs: the least of the shortest ways, by a search in breadth.
  Graphs: the parts, by an order of leaving.
  Graphs: the parts in their order.
  A search in breadth: what its list of nodes before says.
  What is reached, and the least of the shortest ways: what a search says of them.
-/
import Init
namespace Go.Proofs.YtmnhnighlgpjmaaGreat
set_option linter.unusedVariables false
set_option linter.unusedSimpArgs false

abbrev Arcs := List (Nat × Nat)
/-- w is reached from v. -/
inductive RT (A : Arcs) (v : Nat) : Nat → Prop
  | refl : RT A v v
  | step {u w : Nat} : RT A v u → (u, w) ∈ A → RT A v w
theorem RT.one {A : Arcs} {v w : Nat} (h : (v, w) ∈ A) : RT A v w := .step .refl h
theorem RT.trans {A : Arcs} {u v w : Nat} (h : RT A u v) (h2 : RT A v w) : RT A u w := by
  induction h2 with
  | refl => exact h
  | step _ h4 ih => exact .step ih h4
/-- A set closed under arcs. -/
theorem RT.closed {A : Arcs} {v w : Nat} {S : Nat → Prop} (hv : S v) (hc : ∀ a b, (a, b) ∈ A → S a → S b) (h : RT A v w) : S w := by
  induction h with
  | refl => exact hv
  | step _ h4 ih => exact hc _ _ h4 ih
theorem RT.lt {A : Arcs} {n v w : Nat} (hA : ∀ a ∈ A, a.1 < n ∧ a.2 < n) (hv : v < n) (h : RT A v w) : w < n :=
  h.closed (S := fun x => x < n) hv (fun a b hab _ => (hA _ hab).2)
theorem RT.mono {A B : Arcs} {v w : Nat} (hs : ∀ a ∈ A, a ∈ B) (h : RT A v w) : RT B v w := by
  induction h with
  | refl => exact .refl
  | step _ h4 ih => exact .step ih (hs _ h4)
/-- The first arc is taken. -/
theorem RT.head {A : Arcs} {v w : Nat} (h : RT A v w) : v = w ∨ ∃ u, (v, u) ∈ A ∧ RT A u w := by
  induction h with
  | refl => exact .inl rfl
  | step h3 h4 ih =>
    rcases ih with rfl | ⟨u, h5, h6⟩
    · exact .inr ⟨_, h4, .refl⟩
    · exact .inr ⟨u, h5, .step h6 h4⟩

/-- The next arc that leads out of a list. -/
def outArc (A : Arcs) (S : List Nat) : Option (Nat × Nat) := A.find? fun a => S.contains a.1 && !S.contains a.2
def clos (A : Arcs) : Nat → List Nat → List Nat
  | 0, S => S
  | k + 1, S => match outArc A S with
    | none => S
    | some a => clos A k (S ++ [a.2])
theorem clos_sub (A : Arcs) : ∀ (k : Nat) (S : List Nat) (x : Nat), x ∈ S → x ∈ clos A k S
  | 0, S, x, h => h
  | k + 1, S, x, h => by
    unfold clos
    split
    · exact h
    · exact clos_sub A k _ x (by simp [h])
theorem clos_sound (A : Arcs) (v : Nat) : ∀ (k : Nat) (S : List Nat), (∀ x ∈ S, RT A v x) → ∀ x ∈ clos A k S, RT A v x
  | 0, S, h => h
  | k + 1, S, h => by
    unfold clos
    split
    · exact h
    · rename_i a ha
      refine clos_sound A v k _ (fun x hx => ?_)
      have h1 := List.find?_some ha
      have h2 := List.mem_of_find?_eq_some ha
      simp only [Bool.and_eq_true, List.contains_iff_mem] at h1
      rcases List.mem_append.1 hx with h3 | h3
      · exact h x h3
      · rw [List.mem_singleton.1 h3]
        exact .step (h _ h1.1) h2
/-- How many arcs have targets outside. -/
def outs (A : Arcs) (S : List Nat) : Nat := A.countP fun a => !S.contains a.2
theorem outs_lt {A : Arcs} {S : List Nat} {a : Nat × Nat} (h : outArc A S = some a) : outs A (S ++ [a.2]) < outs A S := by
  have h1 := List.find?_some h
  have h2 := List.mem_of_find?_eq_some h
  simp only [Bool.and_eq_true, Bool.not_eq_true'] at h1
  obtain ⟨_, h3⟩ := h1
  unfold outs
  clear h
  induction A with
  | nil => simp at h2
  | cons b A ih =>
    have hle : A.countP (fun c => !(S ++ [a.2]).contains c.2) ≤ A.countP (fun c => !S.contains c.2) := by
      apply List.countP_mono_left
      intro x _ hx
      simp only [Bool.not_eq_true', List.contains_eq_mem, decide_eq_false_iff_not, List.mem_append] at hx ⊢
      exact fun h => hx (.inl h)
    rw [List.countP_cons, List.countP_cons]
    rcases List.mem_cons.1 h2 with h4 | h4
    · subst h4
      have e1 : (!(S ++ [a.2]).contains a.2) = false := by simp
      have e2 : (!S.contains a.2) = true := by rw [h3]; rfl
      rw [e1, e2]
      simp only [if_true, Bool.false_eq_true, if_false]
      omega
    · have := ih h4
      have h5 : (if (!(S ++ [a.2]).contains b.2) = true then 1 else 0) ≤ (if (!S.contains b.2) = true then 1 else 0) := by
        by_cases h6 : b.2 ∈ S
        · simp [h6]
        · simp only [List.contains_eq_mem, h6]
          split <;> simp
      omega
theorem clos_closed (A : Arcs) : ∀ (k : Nat) (S : List Nat), outs A S ≤ k → outArc A (clos A k S) = none
  | 0, S, h => by
    unfold clos
    by_cases h2 : outArc A S = none
    · exact h2
    · obtain ⟨a, ha⟩ := Option.ne_none_iff_exists'.1 h2
      have := outs_lt ha
      omega
  | k + 1, S, h => by
    unfold clos
    split
    · assumption
    · rename_i a ha
      have := outs_lt ha
      exact clos_closed A k _ (by omega)
/-- What is reached from v, as a computation. -/
def reachB (A : Arcs) (v w : Nat) : Bool := (clos A A.length [v]).contains w
theorem reachB_iff (A : Arcs) (v w : Nat) : reachB A v w = true ↔ RT A v w := by
  unfold reachB
  rw [List.contains_iff_mem]
  constructor
  · exact clos_sound A v _ [v] (fun x hx => by rw [List.mem_singleton.1 hx]; exact .refl) w
  · intro h
    refine h.closed (S := fun x => x ∈ clos A A.length [v]) (clos_sub A _ _ _ (by simp)) (fun a b hab ha => ?_)
    have h2 := clos_closed A A.length [v] (List.countP_le_length)
    apply Classical.byContradiction
    intro hb
    have := List.find?_eq_none.1 h2 _ hab
    simp [ha, hb] at this
theorem reachB_congr {A B : Arcs} (h : ∀ a, a ∈ A ↔ a ∈ B) (v w : Nat) : reachB A v w = reachB B v w := by
  rw [Bool.eq_iff_iff, reachB_iff, reachB_iff]
  exact ⟨fun h2 => h2.mono fun a ha => (h a).1 ha, fun h2 => h2.mono fun a ha => (h a).2 ha⟩
end Go.Proofs.YtmnhnighlgpjmaaGreat

namespace Go.Proofs.YtmnhnighlgpjmaaGreat
set_option linter.unusedVariables false
set_option linter.unusedSimpArgs false

/-- A list follows arcs. -/
def Fol (A : Arcs) (l : List Nat) : Prop := ∀ i x y, l[i]? = some x → l[i + 1]? = some y → (x, y) ∈ A
theorem Fol.one (A : Arcs) (x : Nat) : Fol A [x] := by
  intro i a b h1 h2; simp at h2
theorem Fol.snoc {A : Arcs} {q : List Nat} {u w : Nat} (h : Fol A (q ++ [u])) (hw : (u, w) ∈ A) : Fol A (q ++ [u] ++ [w]) := by
  intro i x y h1 h2
  have hi : i + 1 < (q ++ [u] ++ [w]).length := (List.getElem?_eq_some_iff.1 h2).1
  simp only [List.length_append, List.length_singleton] at hi
  by_cases h3 : i + 1 < (q ++ [u]).length
  · rw [List.getElem?_append_left (by omega)] at h1
    rw [List.getElem?_append_left h3] at h2
    exact h i x y h1 h2
  · simp only [List.length_append, List.length_singleton] at h3
    have hi2 : i = q.length := by omega
    subst hi2
    rw [List.getElem?_append_left (by simp), List.getElem?_append_right (Nat.le_refl _), Nat.sub_self] at h1
    rw [List.getElem?_append_right (by simp)] at h2
    simp at h1 h2
    rw [← h1, ← h2]; exact hw
theorem Fol.pre {A : Arcs} {q r : List Nat} (h : Fol A (q ++ r)) : Fol A q := by
  intro i x y h1 h2
  have hi := (List.getElem?_eq_some_iff.1 h1).1
  have hi2 := (List.getElem?_eq_some_iff.1 h2).1
  exact h i x y (by rw [List.getElem?_append_left hi]; exact h1) (by rw [List.getElem?_append_left hi2]; exact h2)
theorem Fol.post {A : Arcs} {q r : List Nat} (h : Fol A (q ++ r)) : Fol A r := by
  intro i x y h1 h2
  refine h (q.length + i) x y ?_ ?_
  · rw [List.getElem?_append_right (by omega), Nat.add_sub_cancel_left]; exact h1
  · rw [List.getElem?_append_right (by omega), show q.length + i + 1 - q.length = i + 1 by omega]; exact h2
theorem Fol.last {A : Arcs} {q : List Nat} {u w : Nat} (h : Fol A (q ++ [u] ++ [w])) : (u, w) ∈ A :=
  h q.length u w (by simp) (by simp)
theorem Fol.rt {A : Arcs} : ∀ {l : List Nat} {v : Nat}, Fol A (v :: l) → ∀ w ∈ v :: l, RT A v w
  | [], v, h, w, hw => by rw [List.mem_singleton.1 hw]; exact .refl
  | u :: l, v, h, w, hw => by
    rcases List.mem_cons.1 hw with rfl | h2
    · exact .refl
    · have h3 : (v, u) ∈ A := h 0 v u (by simp) (by simp)
      exact (RT.one h3).trans (Fol.rt (l := l) (v := u) (Fol.post (q := [v]) h) w h2)
theorem RT.way {A : Arcs} {v w : Nat} (h : RT A v w) : ∃ l, Fol A (l ++ [w]) ∧ (l ++ [w])[0]? = some v := by
  induction h with
  | refl => exact ⟨[], Fol.one A v, rfl⟩
  | step _ h4 ih =>
    obtain ⟨l, h5, h6⟩ := ih
    refine ⟨l ++ [_], Fol.snoc h5 h4, ?_⟩
    rw [List.getElem?_append_left (by simp)]; exact h6

/-- Lists compared element by element. -/
def lexLt : List Nat → List Nat → Bool
  | [], [] => false
  | [], _ :: _ => true
  | _ :: _, [] => false
  | x :: a, y :: b => if x = y then lexLt a b else decide (x < y)
theorem lex_irr : ∀ a : List Nat, lexLt a a = false
  | [] => rfl
  | x :: a => by unfold lexLt; rw [if_pos rfl]; exact lex_irr a
theorem lex_trans : ∀ {a b c : List Nat}, lexLt a b = true → lexLt b c = true → lexLt a c = true
  | [], [], _, h, _ => by simp [lexLt] at h
  | [], _ :: _, [], _, h2 => by simp [lexLt] at h2
  | [], _ :: _, _ :: _, _, _ => by simp [lexLt]
  | _ :: _, [], _, h, _ => by simp [lexLt] at h
  | _ :: _, _ :: _, [], _, h2 => by simp [lexLt] at h2
  | x :: a, y :: b, z :: c, h, h2 => by
    unfold lexLt at h h2 ⊢
    by_cases e1 : x = y
    · rw [if_pos e1] at h
      by_cases e2 : y = z
      · rw [if_pos e2] at h2
        rw [if_pos (e1.trans e2)]
        exact lex_trans h h2
      · rw [if_neg e2] at h2
        rw [if_neg (by omega)]
        simp at h2 ⊢; omega
    · rw [if_neg e1] at h
      by_cases e2 : y = z
      · rw [if_pos e2] at h2
        rw [if_neg (by omega)]
        simp at h ⊢; omega
      · rw [if_neg e2] at h2
        simp at h h2
        rw [if_neg (by omega)]
        simp; omega
theorem lex_tri : ∀ a b : List Nat, lexLt a b = true ∨ a = b ∨ lexLt b a = true
  | [], [] => .inr (.inl rfl)
  | [], _ :: _ => .inl rfl
  | _ :: _, [] => .inr (.inr rfl)
  | x :: a, y :: b => by
    unfold lexLt
    by_cases e : x = y
    · subst e
      simp only [if_true]
      rcases lex_tri a b with h | h | h
      · exact .inl h
      · exact .inr (.inl (by rw [h]))
      · exact .inr (.inr h)
    · rw [if_neg e, if_neg (by omega)]
      simp only [decide_eq_true_iff]
      omega
theorem lex_asymm {a b : List Nat} (h : lexLt a b = true) : lexLt b a = false := by
  cases h2 : lexLt b a
  · rfl
  · have := lex_trans h h2
    rw [lex_irr] at this; cases this
theorem lex_snoc : ∀ {a b : List Nat} (x y : Nat), a.length = b.length → lexLt a b = true → lexLt (a ++ [x]) (b ++ [y]) = true
  | [], [], _, _, _, h => by simp [lexLt] at h
  | [], _ :: _, _, _, h, _ => by simp at h
  | _ :: _, [], _, _, h, _ => by simp at h
  | u :: a, v :: b, x, y, hl, h => by
    simp only [List.cons_append]
    unfold lexLt at h ⊢
    by_cases e : u = v
    · rw [if_pos e] at h ⊢
      exact lex_snoc x y (by simpa using hl) h
    · rw [if_neg e] at h ⊢; exact h
theorem lex_same : ∀ (a : List Nat) (x y : Nat), lexLt (a ++ [x]) (a ++ [y]) = decide (x < y)
  | [], x, y => by
    simp only [List.nil_append]
    unfold lexLt
    by_cases e : x = y
    · subst e; simp [lexLt]
    · rw [if_neg e]
  | u :: a, x, y => by
    simp only [List.cons_append]
    unfold lexLt
    rw [if_pos rfl]
    exact lex_same a x y
/-- The order of ways: those with fewer nodes first, then the lesser ones. -/
def sl (a b : List Nat) : Prop := a.length < b.length ∨ (a.length = b.length ∧ lexLt a b = true)
theorem sl_irr (a : List Nat) : ¬ sl a a := by
  rintro (h | ⟨_, h⟩)
  · omega
  · rw [lex_irr] at h; cases h
theorem sl_trans {a b c : List Nat} (h : sl a b) (h2 : sl b c) : sl a c := by
  rcases h with h | ⟨h, h3⟩ <;> rcases h2 with h2 | ⟨h2, h4⟩
  · exact .inl (by omega)
  · exact .inl (by omega)
  · exact .inl (by omega)
  · exact .inr ⟨by omega, lex_trans h3 h4⟩
theorem sl_asymm {a b : List Nat} (h : sl a b) : ¬ sl b a := fun h2 => sl_irr a (sl_trans h h2)
theorem sl_tri (a b : List Nat) : sl a b ∨ a = b ∨ sl b a := by
  rcases Nat.lt_trichotomy a.length b.length with h | h | h
  · exact .inl (.inl h)
  · rcases lex_tri a b with h2 | h2 | h2
    · exact .inl (.inr ⟨h, h2⟩)
    · exact .inr (.inl h2)
    · exact .inr (.inr (.inr ⟨h.symm, h2⟩))
  · exact .inr (.inr (.inl h))
theorem sl_snoc {a b : List Nat} (x y : Nat) (h : sl a b) : sl (a ++ [x]) (b ++ [y]) := by
  rcases h with h | ⟨h, h2⟩
  · exact .inl (by simp; omega)
  · exact .inr ⟨by simp [h], lex_snoc x y h h2⟩
theorem sl_same {a : List Nat} {x y : Nat} (h : x < y) : sl (a ++ [x]) (a ++ [y]) := .inr ⟨by simp, by rw [lex_same]; simpa using h⟩

def lst (p : List Nat) : Nat := p.getLastD 0
@[simp] theorem lst_snoc (q : List Nat) (w : Nat) : lst (q ++ [w]) = w := by unfold lst; simp
@[simp] theorem lst_one (w : Nat) : lst [w] = w := rfl
theorem eq_snoc {p : List Nat} (h : p ≠ []) : p = p.dropLast ++ [lst p] := by
  have := List.dropLast_concat_getLast h
  unfold lst
  rw [List.getLastD_eq_getLast?, List.getLast?_eq_some_getLast h]
  exact this.symm
/-- The state of a search: the ways to the nodes of the queue; the first i of them are done, of the next one the arcs to T. -/
structure Bfs (A : Arcs) (R : List Nat) (P : List (List Nat)) (i : Nat) (T : List Nat) : Prop where
  ne : ∀ p ∈ P, p ≠ []
  fol : ∀ p ∈ P, Fol A p
  beg : ∀ p ∈ P, ∃ r ∈ R, p[0]? = some r
  nd : (P.map lst).Nodup
  pc : ∀ p ∈ P, p.length = 1 ∨ ∃ j q, P[j]? = some q ∧ j ≤ i ∧ p = q ++ [lst p] ∧ (j = i → lst p ∈ T)
  ord : P.Pairwise sl
  rt : ∀ r ∈ R, [r] ∈ P
  done : ∀ j q, j < i → P[j]? = some q → ∀ w, (lst q, w) ∈ A → ∃ p ∈ P, lst p = w ∧ ¬ sl (q ++ [w]) p
  cur : ∀ q, P[i]? = some q → ∀ w ∈ T, ∃ p ∈ P, lst p = w ∧ ¬ sl (q ++ [w]) p

theorem nodup_snoc {α : Type} {l : List α} {a : α} (h : l.Nodup) (ha : a ∉ l) : (l ++ [a]).Nodup := by
  rw [List.nodup_append]
  exact ⟨h, by simp, fun x hx y hy => by rw [List.mem_singleton.1 hy]; exact fun e => ha (e ▸ hx)⟩
/-- The roots, ascending and each once. -/
theorem Bfs.start (A : Arcs) {R L : List Nat} (h1 : ∀ r, r ∈ L ↔ r ∈ R) (h2 : L.Pairwise (· < ·)) : Bfs A R (L.map fun r => [r]) 0 [] where
  ne := fun p hp => by obtain ⟨r, _, rfl⟩ := List.mem_map.1 hp; simp
  fol := fun p hp => by obtain ⟨r, _, rfl⟩ := List.mem_map.1 hp; exact Fol.one A r
  beg := fun p hp => by obtain ⟨r, hr, rfl⟩ := List.mem_map.1 hp; exact ⟨r, (h1 r).1 hr, rfl⟩
  nd := by
    rw [List.map_map]
    have : (lst ∘ fun r => [r]) = id := by funext r; rfl
    rw [this, List.map_id]
    exact h2.imp (fun h => by omega)
  pc := fun p hp => by obtain ⟨r, _, rfl⟩ := List.mem_map.1 hp; exact .inl rfl
  ord := by
    rw [List.pairwise_map]
    exact h2.imp (fun h => sl_same (a := []) h)
  rt := fun r hr => List.mem_map.2 ⟨r, (h1 r).2 hr, rfl⟩
  done := fun j q hj => by omega
  cur := fun q _ w hw => by simp at hw
/-- A node that is in the queue. -/
theorem Bfs.old {A : Arcs} {R : List Nat} {P : List (List Nat)} {i : Nat} {T : List Nat} (h : Bfs A R P i T) {q : List Nat} {w : Nat} (hq : P[i]? = some q) (hw : w ∈ P.map lst) : Bfs A R P i (T ++ [w]) := by
  refine { h with pc := fun p hp => ?_, cur := fun q2 hq2 x hx => ?_ }
  · rcases h.pc p hp with h1 | ⟨j, q, h1, h2, h3, h4⟩
    · exact .inl h1
    · exact .inr ⟨j, q, h1, h2, h3, fun e => by simp [h4 e]⟩
  · rcases List.mem_append.1 hx with hx | hx
    · exact h.cur q2 hq2 x hx
    · rw [List.mem_singleton.1 hx]
      rw [hq] at hq2; injection hq2 with hq2; subst hq2
      obtain ⟨p, hp, hpw⟩ := List.mem_map.1 hw
      refine ⟨p, hp, hpw, ?_⟩
      have hqn : 0 < q.length := List.length_pos_iff.2 (h.ne q (List.mem_of_getElem? hq))
      rcases h.pc p hp with h1 | ⟨j, q2, h1, h2, h3, _⟩
      · rintro (h5 | ⟨h5, _⟩) <;> simp at h5 <;> omega
      · rw [h3, hpw]
        rcases Nat.lt_or_eq_of_le h2 with h6 | h6
        · obtain ⟨_, e1⟩ := List.getElem?_eq_some_iff.1 h1
          obtain ⟨_, e2⟩ := List.getElem?_eq_some_iff.1 hq
          have := List.pairwise_iff_getElem.1 h.ord j i (by assumption) (by assumption) h6
          rw [e1, e2] at this
          exact sl_asymm (sl_snoc w w this)
        · subst h6
          rw [hq] at h1; injection h1 with h1; subst h1
          exact sl_irr _
/-- A node that is new. -/
theorem Bfs.new {A : Arcs} {R : List Nat} {P : List (List Nat)} {i : Nat} {T : List Nat} (h : Bfs A R P i T) {q : List Nat} {w : Nat} (hq : P[i]? = some q) (hw : w ∉ P.map lst) (ha : (lst q, w) ∈ A) (hT : ∀ t ∈ T, t ≤ w) : Bfs A R (P ++ [q ++ [w]]) i (T ++ [w]) := by
  have hqm := List.mem_of_getElem? hq
  have hqn : 0 < q.length := List.length_pos_iff.2 (h.ne q hqm)
  obtain ⟨hi, hq2⟩ := List.getElem?_eq_some_iff.1 hq
  have up : ∀ {j : Nat} {x : List Nat}, P[j]? = some x → (P ++ [q ++ [w]])[j]? = some x := fun {j x} hx => by
    rw [List.getElem?_append_left (List.getElem?_eq_some_iff.1 hx).1]; exact hx
  have dn : ∀ {j : Nat} {x : List Nat}, j ≤ i → (P ++ [q ++ [w]])[j]? = some x → P[j]? = some x := fun {j x} hj hx => by
    rw [List.getElem?_append_left (by omega)] at hx; exact hx
  refine ⟨fun p hp => ?_, fun p hp => ?_, fun p hp => ?_, ?_, fun p hp => ?_, ?_, fun r hr => ?_, fun j q3 hj hq3 x hx => ?_, fun q3 hq3 x hx => ?_⟩
  · rcases List.mem_append.1 hp with h1 | h1
    · exact h.ne p h1
    · rw [List.mem_singleton.1 h1]; simp
  · rcases List.mem_append.1 hp with h1 | h1
    · exact h.fol p h1
    · rw [List.mem_singleton.1 h1]
      have e := eq_snoc (h.ne q hqm)
      rw [e]
      exact Fol.snoc (e ▸ h.fol q hqm) ha
  · rcases List.mem_append.1 hp with h1 | h1
    · exact h.beg p h1
    · rw [List.mem_singleton.1 h1, List.getElem?_append_left hqn]
      exact h.beg q hqm
  · rw [List.map_append]
    simp only [List.map_cons, List.map_nil, lst_snoc]
    exact nodup_snoc h.nd hw
  · rcases List.mem_append.1 hp with h1 | h1
    · rcases h.pc p h1 with h2 | ⟨j, q3, h2, h3, h4, h5⟩
      · exact .inl h2
      · exact .inr ⟨j, q3, up h2, h3, h4, fun e => by simp [h5 e]⟩
    · rw [List.mem_singleton.1 h1]
      exact .inr ⟨i, q, up hq, Nat.le_refl _, by simp, fun _ => by simp⟩
  · rw [List.pairwise_append]
    refine ⟨h.ord, by simp, fun p hp x hx => ?_⟩
    rw [List.mem_singleton.1 hx]
    rcases h.pc p hp with h1 | ⟨j, q3, h1, h2, h3, h4⟩
    · exact .inl (by simp; omega)
    · rw [h3]
      rcases Nat.lt_or_eq_of_le h2 with h6 | h6
      · obtain ⟨hj, e1⟩ := List.getElem?_eq_some_iff.1 h1
        have := List.pairwise_iff_getElem.1 h.ord j i hj hi h6
        rw [e1, hq2] at this
        exact sl_snoc _ _ this
      · have h7 := hT _ (h4 h6)
        have h8 : lst p ≠ w := fun e => hw (e ▸ List.mem_map_of_mem hp)
        subst h6
        rw [hq] at h1; injection h1 with h1; subst h1
        exact sl_same (by omega)
  · exact List.mem_append_left _ (h.rt r hr)
  · obtain ⟨p, hp, h2⟩ := h.done j q3 hj (dn (by omega) hq3) x hx
    exact ⟨p, List.mem_append_left _ hp, h2⟩
  · have hq4 := dn (Nat.le_refl _) hq3
    rcases List.mem_append.1 hx with hx | hx
    · obtain ⟨p, hp, h2⟩ := h.cur q3 hq4 x hx
      exact ⟨p, List.mem_append_left _ hp, h2⟩
    · rw [List.mem_singleton.1 hx]
      rw [hq] at hq4; injection hq4 with hq4; subst hq4
      exact ⟨q ++ [w], by simp, by simp, sl_irr _⟩
/-- All arcs of a node are done. -/
theorem Bfs.next {A : Arcs} {R : List Nat} {P : List (List Nat)} {i : Nat} {T : List Nat} (h : Bfs A R P i T) {q : List Nat} (hq : P[i]? = some q) (hT : ∀ w, (lst q, w) ∈ A → w ∈ T) : Bfs A R P (i + 1) [] := by
  refine { h with pc := fun p hp => ?_, done := fun j q3 hj hq3 x hx => ?_, cur := fun q3 _ w hw => by simp at hw }
  · rcases h.pc p hp with h2 | ⟨j, q3, h2, h3, h4, h5⟩
    · exact .inl h2
    · exact .inr ⟨j, q3, h2, by omega, h4, fun e => by omega⟩
  · by_cases e : j < i
    · exact h.done j q3 e hq3 x hx
    · have : j = i := by omega
      subst this
      have e2 := hq
      rw [hq3] at e2; injection e2 with e2; subst e2
      exact h.cur q3 hq3 x (hT x hx)
/-- The end: to each node that is reached, the least of the shortest ways. -/
structure Ways (A : Arcs) (R : List Nat) (P : List (List Nat)) : Prop where
  ne : ∀ p ∈ P, p ≠ []
  fol : ∀ p ∈ P, Fol A p
  beg : ∀ p ∈ P, ∃ r ∈ R, p[0]? = some r
  nd : (P.map lst).Nodup
  pc : ∀ p ∈ P, p.length = 1 ∨ ∃ q ∈ P, p = q ++ [lst p]
  all : ∀ l : List Nat, l ≠ [] → Fol A l → (∃ r ∈ R, l[0]? = some r) → ∃ p ∈ P, lst p = lst l ∧ ¬ sl l p
theorem sl_le_snoc {p q : List Nat} (w : Nat) (h : ¬ sl q p) : ¬ sl (q ++ [w]) (p ++ [w]) := by
  rcases sl_tri p q with h2 | h2 | h2
  · exact sl_asymm (sl_snoc w w h2)
  · rw [h2]; exact sl_irr _
  · exact absurd h2 h
theorem sl_le_trans {p q r : List Nat} (h : ¬ sl q p) (h2 : ¬ sl r q) : ¬ sl r p := by
  intro h3
  rcases sl_tri p q with h4 | h4 | h4
  · exact h2 (sl_trans h3 h4)
  · subst h4; exact h2 h3
  · exact h h4
theorem Bfs.ways {A : Arcs} {R : List Nat} {P : List (List Nat)} (h : Bfs A R P P.length []) : Ways A R P := by
  refine ⟨h.ne, h.fol, h.beg, h.nd, fun p hp => ?_, ?_⟩
  · rcases h.pc p hp with h2 | ⟨j, q, h2, _, h4, _⟩
    · exact .inl h2
    · exact .inr ⟨q, List.mem_of_getElem? h2, h4⟩
  · suffices H : ∀ (k : Nat) (l : List Nat), l.length = k → l ≠ [] → Fol A l → (∃ r ∈ R, l[0]? = some r) → ∃ p ∈ P, lst p = lst l ∧ ¬ sl l p from fun l => H l.length l rfl
    intro k
    induction k with
    | zero => intro l h1 h2; exact absurd (List.length_eq_zero_iff.1 h1) h2
    | succ k ih =>
      intro l hl hne hf hr
      have e := eq_snoc hne
      by_cases hd : l.dropLast = []
      · rw [hd] at e
        obtain ⟨r, hr, h3⟩ := hr
        rw [e] at h3
        simp at h3
        refine ⟨[r], h.rt r hr, by rw [← h3]; rfl, ?_⟩
        rw [e, h3]; exact sl_irr _
      · have e2 := eq_snoc hd
        obtain ⟨p, hp, h4, h5⟩ := ih l.dropLast (by simp [hl]) hd (Fol.pre (r := [lst l]) (e ▸ hf)) (by
          obtain ⟨r, hr, h3⟩ := hr
          refine ⟨r, hr, ?_⟩
          rw [e, List.getElem?_append_left (List.length_pos_iff.2 hd)] at h3
          exact h3)
        have ha : (lst p, lst l) ∈ A := by
          rw [h4]
          rw [e2] at e
          exact Fol.last (q := l.dropLast.dropLast) (e ▸ hf)
        obtain ⟨j, hj, hpj⟩ := List.getElem_of_mem hp
        obtain ⟨p2, hp2, h6, h7⟩ := h.done j p hj (by rw [List.getElem?_eq_getElem hj, hpj]) (lst l) ha
        refine ⟨p2, hp2, h6, ?_⟩
        rw [e]
        exact sl_le_trans h7 (sl_le_snoc _ h5)
end Go.Proofs.YtmnhnighlgpjmaaGreat

namespace Go.Proofs.YtmnhnighlgpjmaaGreat
set_option linter.unusedVariables false
set_option linter.unusedSimpArgs false

/-- Two nodes are in the same part. -/
def eqv (A : Arcs) (v w : Nat) : Prop := RT A v w ∧ RT A w v
theorem eqv.refl (A : Arcs) (v : Nat) : eqv A v v := ⟨.refl, .refl⟩
theorem eqv.symm {A : Arcs} {v w : Nat} (h : eqv A v w) : eqv A w v := ⟨h.2, h.1⟩
theorem eqv.trans {A : Arcs} {u v w : Nat} (h : eqv A u v) (h2 : eqv A v w) : eqv A u w := ⟨h.1.trans h2.1, h2.2.trans h.2⟩
def eqvB (A : Arcs) (v w : Nat) : Bool := reachB A v w && reachB A w v
theorem eqvB_iff (A : Arcs) (v w : Nat) : eqvB A v w = true ↔ eqv A v w := by
  unfold eqvB eqv
  rw [Bool.and_eq_true, reachB_iff, reachB_iff]
/-- The nodes of a node's part, ascending. -/
def partOf (A : Arcs) (n v : Nat) : List Nat := (List.range n).filter fun w => eqvB A v w
theorem mem_partOf {A : Arcs} {n v w : Nat} : w ∈ partOf A n v ↔ w < n ∧ eqv A v w := by
  unfold partOf
  rw [List.mem_filter, List.mem_range, eqvB_iff]
theorem partOf_asc (A : Arcs) (n v : Nat) : (partOf A n v).Pairwise (· < ·) := List.pairwise_lt_range.filter _
theorem partOf_congr {A : Arcs} {v w : Nat} (n : Nat) (h : eqv A v w) : partOf A n v = partOf A n w := by
  unfold partOf
  apply List.filter_congr
  intro x _
  rw [Bool.eq_iff_iff, eqvB_iff, eqvB_iff]
  exact ⟨fun h2 => h.symm.trans h2, fun h2 => h.trans h2⟩
/-- The least node of a node's part. -/
def hd (A : Arcs) (n v : Nat) : Nat := (partOf A n v).headD v
theorem asc_head {l : List Nat} (h : l.Pairwise (· < ·)) {x d : Nat} (hx : x ∈ l) : l.headD d ≤ x ∧ l.headD d ∈ l := by
  cases l with
  | nil => simp at hx
  | cons a l =>
    rcases List.mem_cons.1 hx with rfl | h2
    · exact ⟨Nat.le_refl _, by simp⟩
    · exact ⟨Nat.le_of_lt ((List.pairwise_cons.1 h).1 x h2), by simp⟩
theorem hd_mem {A : Arcs} {n v : Nat} (hv : v < n) : hd A n v < n ∧ eqv A v (hd A n v) :=
  mem_partOf.1 (asc_head (partOf_asc A n v) (mem_partOf.2 ⟨hv, eqv.refl A v⟩)).2
theorem hd_le {A : Arcs} {n v w : Nat} (hw : w < n) (h : eqv A v w) : hd A n v ≤ w :=
  (asc_head (partOf_asc A n v) (mem_partOf.2 ⟨hw, h⟩)).1
theorem hd_congr {A : Arcs} {n v w : Nat} (hv : v < n) (h : eqv A v w) : hd A n v = hd A n w := by
  have e := partOf_congr n h
  have h1 := (asc_head (d := w) (partOf_asc A n v) (mem_partOf.2 ⟨hv, eqv.refl A v⟩))
  have h2 : v ∈ partOf A n v := mem_partOf.2 ⟨hv, eqv.refl A v⟩
  unfold hd
  rw [← e]
  cases hp : partOf A n v with
  | nil => rw [hp] at h2; simp at h2
  | cons a l => rfl
theorem hd_iff {A : Arcs} {n v w : Nat} (hv : v < n) (hw : w < n) : hd A n v = hd A n w ↔ eqv A v w := by
  refine ⟨fun h => ?_, hd_congr hv⟩
  have h1 := (hd_mem (A := A) hv).2
  have h2 := (hd_mem (A := A) hw).2
  rw [h] at h1
  exact h1.trans h2.symm
theorem hd_idem {A : Arcs} {n v : Nat} (hv : v < n) : hd A n (hd A n v) = hd A n v := (hd_congr hv (hd_mem hv).2).symm

/-- What an order of leaving keeps: for each beginning, an arc from it leads into it or to a node that reaches its last node. -/
def Leave (A : Arcs) (L : List Nat) : Prop := ∀ L1 b L2, L = L1 ++ b :: L2 → ∀ u w, u ∈ L1 ++ [b] → (u, w) ∈ A → w ∈ L1 ++ [b] ∨ RT A w b
theorem Leave.nil (A : Arcs) : Leave A [] := by
  intro L1 b L2 h; simp at h
theorem Leave.snoc {A : Arcs} {L : List Nat} {v : Nat} (h : Leave A L) (hv : ∀ u w, u ∈ L ++ [v] → (u, w) ∈ A → w ∈ L ++ [v] ∨ RT A w v) : Leave A (L ++ [v]) := by
  intro L1 b L2 e
  rcases List.eq_nil_or_concat L2 with h2 | ⟨L3, x, h2⟩
  · subst h2
    have h3 := List.append_inj' e (by simp)
    obtain ⟨h4, h5⟩ := h3
    injection h5 with h5
    subst h4; subst h5
    exact hv
  · rw [List.concat_eq_append] at h2
    subst h2
    rw [← List.cons_append, ← List.append_assoc] at e
    have h3 := (List.append_inj' e (by simp)).1
    exact h L1 b L3 h3
/-- A way whose nodes all left no later than its end: the end reaches the beginning. -/
theorem Leave.back {A : Arcs} {L : List Nat} (h : Leave A L) : ∀ (k : Nat) (l : List Nat) (u v : Nat) (L1 L2 : List Nat), l.length ≤ k → L = L1 ++ v :: L2 → L.Nodup → Fol A (u :: l) → lst (u :: l) = v → (∀ x ∈ u :: l, x ∈ L1 ++ [v]) → RT A v u := by
  intro k
  induction k with
  | zero =>
    intro l u v L1 L2 hk e nd hf hl hin
    have : l = [] := List.length_eq_zero_iff.1 (by omega)
    subst this
    rw [← hl]; exact .refl
  | succ k ih =>
    intro l u v L1 L2 hk e nd hf hl hin
    by_cases huv : u = v
    · rw [huv]; exact .refl
    · have hu : u ∈ L1 := by
        have := hin u (by simp)
        simp [huv] at this; exact this
      obtain ⟨M1, M2, rfl⟩ := List.append_of_mem hu
      have e2 : L = M1 ++ u :: (M2 ++ v :: L2) := by rw [e]; simp
      have hvn : v ∉ M1 ++ [u] := by
        intro hm
        rw [e] at nd
        have := (List.nodup_append.1 nd).2.2 v (by simp at hm ⊢; rcases hm with hm | hm; exact .inl hm; exact .inr (.inl hm)) v (by simp)
        exact this rfl
      -- the first node of the way that left later than u
      suffices H : ∀ (m : Nat) (r : List Nat) (x : Nat), r.length ≤ m → r.length ≤ l.length → Fol A (x :: r) → lst (x :: r) = v → (∀ y ∈ x :: r, y ∈ M1 ++ u :: M2 ++ [v]) → x ∈ M1 ++ [u] → RT A v u from
        H l.length l u (Nat.le_refl _) (Nat.le_refl _) hf hl (by simpa using hin) (by simp)
      intro m
      induction m with
      | zero =>
        intro r x hr _ _ hl2 _ hx
        have : r = [] := List.length_eq_zero_iff.1 (by omega)
        subst this
        exact absurd (hl2 ▸ hx) hvn
      | succ m ih2 =>
        intro r x hr hr2 hf2 hl2 hin2 hx
        cases r with
        | nil => exact absurd (hl2 ▸ hx) hvn
        | cons y r =>
          have ha : (x, y) ∈ A := hf2 0 x y (by simp) (by simp)
          have hl3 : lst (y :: r) = v := by rw [← hl2]; unfold lst; simp
          have hf3 : Fol A (y :: r) := Fol.post (q := [x]) hf2
          have hin3 : ∀ z ∈ y :: r, z ∈ M1 ++ u :: M2 ++ [v] := fun z hz => hin2 z (by simp at hz ⊢; exact .inr hz)
          by_cases hy : y ∈ M1 ++ [u]
          · exact ih2 r y (by simp at hr; omega) (by simp at hr2; omega) hf3 hl3 hin3 hy
          · have h4 := (h M1 u _ e2 x y hx ha).resolve_left hy
            exact (ih r y v (M1 ++ u :: M2) L2 (by simp at hr2; omega) e nd hf3 hl3 hin3).trans h4
/-- What is gathered backwards from the last node without a head is its part. -/
theorem Leave.part {A : Arcs} {n : Nat} {L L1 L2 : List Nat} {v : Nat} (hA : ∀ a ∈ A, a.1 < n ∧ a.2 < n) (h : Leave A L) (nd : L.Nodup) (all : ∀ x, x < n → x ∈ L) (e : L = L1 ++ v :: L2) {H : Nat → Prop} (hv : v < n)
    (h2 : ∀ x ∈ L2, H x) (hs : ∀ x y, eqv A x y → H x → H y) (hv2 : ¬ H v) (w : Nat) (hw : w < n) :
    (∃ l, Fol A (l ++ [v]) ∧ (l ++ [v])[0]? = some w ∧ ∀ x ∈ l ++ [v], ¬ H x) ↔ eqv A v w := by
  constructor
  · rintro ⟨l, hf, h0, hH⟩
    have hin : ∀ x ∈ l ++ [v], x ∈ L1 ++ [v] := fun x hx => by
      have h3 := hH x hx
      have h4 : x ∈ L := all x (by
        rcases List.mem_append.1 hx with h5 | h5
        · obtain ⟨i, hi, h6⟩ := List.getElem_of_mem h5
          have h7 : (l ++ [v])[i]? = some x := by rw [List.getElem?_append_left hi, List.getElem?_eq_getElem hi, h6]
          have hi2 : i + 1 < (l ++ [v]).length := by simp; omega
          exact (hA _ (hf i x _ h7 (List.getElem?_eq_getElem hi2))).1
        · rw [List.mem_singleton.1 h5]; exact hv)
      rw [e] at h4
      rcases List.mem_append.1 h4 with h5 | h5
      · exact List.mem_append_left _ h5
      · rcases List.mem_cons.1 h5 with h6 | h6
        · simp [h6]
        · exact absurd (h2 x h6) h3
    cases hl : l ++ [v] with
    | nil => simp at hl
    | cons u r =>
      rw [hl] at h0 hf hin
      simp at h0
      subst h0
      have hl2 : lst (u :: r) = v := by rw [← hl]; simp
      refine ⟨h.back r.length r u v L1 L2 (Nat.le_refl _) e nd hf hl2 hin, ?_⟩
      exact Fol.rt hf v (by rw [← hl2]; have := eq_snoc (p := u :: r) (by simp); rw [this]; simp)
  · intro h3
    obtain ⟨l, hf, h0⟩ := h3.2.way
    refine ⟨l, hf, h0, fun x hx hx2 => hv2 (hs x v ?_ hx2)⟩
    obtain ⟨s, t, hst⟩ := List.append_of_mem hx
    have f1 : Fol A (x :: t) := Fol.post (q := s) (hst ▸ hf)
    have r1 : RT A x v := Fol.rt f1 v (by
      have : lst (x :: t) = v := by
        have h9 : lst (s ++ x :: t) = v := by rw [← hst]; simp
        unfold lst at h9 ⊢
        rw [List.getLastD_eq_getLast?] at h9 ⊢
        rw [List.getLast?_append] at h9
        rw [List.getLast?_eq_some_getLast (l := x :: t) (by simp)] at h9 ⊢
        simpa using h9
      rw [← this]
      have := eq_snoc (p := x :: t) (by simp)
      rw [this]; simp)
    have r2 : RT A w x := by
      cases hl : l ++ [v] with
      | nil => simp at hl
      | cons u r =>
        rw [hl] at h0 hf hx
        simp at h0
        subst h0
        exact Fol.rt hf x hx
    exact ⟨r1, h3.1.trans r2⟩
end Go.Proofs.YtmnhnighlgpjmaaGreat

namespace Go.Proofs.YtmnhnighlgpjmaaGreat
set_option linter.unusedVariables false
set_option linter.unusedSimpArgs false

/-- From v arcs lead only to its own part and to what is listed. -/
def readyB (A : Arcs) (n : Nat) (D : List Nat) (v : Nat) : Bool := !D.contains v && (List.range n).all fun w => !reachB A v w || reachB A w v || D.contains w
def partsGo (A : Arcs) (n : Nat) : Nat → List Nat → List (List Nat)
  | 0, _ => []
  | k + 1, D => match (List.range n).find? (readyB A n D) with
    | none => []
    | some v => partOf A n v :: partsGo A n k (D ++ partOf A n v)
def partsOf (A : Arcs) (n : Nat) : List (List Nat) := partsGo A n n []

theorem readyB_iff (A : Arcs) (n : Nat) (D : List Nat) (v : Nat) : readyB A n D v = true ↔ v ∉ D ∧ ∀ w, w < n → RT A v w → RT A w v ∨ w ∈ D := by
  unfold readyB
  simp only [Bool.and_eq_true, Bool.not_eq_true', List.contains_eq_mem, decide_eq_false_iff_not, List.all_eq_true, List.mem_range, Bool.or_eq_true, decide_eq_true_iff]
  refine and_congr Iff.rfl ⟨fun h w hw hr => ?_, fun h w hw => ?_⟩
  · rcases h w hw with (h1 | h1) | h1
    · rw [(reachB_iff A v w).2 hr] at h1; cases h1
    · exact .inl ((reachB_iff A w v).1 h1)
    · exact .inr h1
  · by_cases hr : RT A v w
    · rcases h w hw hr with h1 | h1
      · exact .inl (.inr ((reachB_iff A w v).2 h1))
      · exact .inr h1
    · refine .inl (.inl ?_)
      cases h2 : reachB A v w
      · rfl
      · exact absurd ((reachB_iff A v w).1 h2) hr
/-- What is listed. -/
structure Listed (A : Arcs) (n : Nat) (D : List Nat) : Prop where
  lt : ∀ v ∈ D, v < n
  nd : D.Nodup
  down : ∀ v w, v ∈ D → w < n → RT A v w → w ∈ D
theorem Listed.nil (A : Arcs) (n : Nat) : Listed A n [] := ⟨by simp, by simp, by simp⟩
theorem Listed.snoc {A : Arcs} {n : Nat} {D : List Nat} {v : Nat} (h : Listed A n D) (hv : v < n) (hr : readyB A n D v = true) : Listed A n (D ++ partOf A n v) := by
  have h1 := (readyB_iff A n D v).1 hr
  refine ⟨fun x hx => ?_, ?_, fun x w hx hw he => ?_⟩
  · rcases List.mem_append.1 hx with h2 | h2
    · exact h.lt x h2
    · exact (mem_partOf.1 h2).1
  · rw [List.nodup_append]
    refine ⟨h.nd, (partOf_asc A n v).imp (fun h => by omega), fun x hx y hy e => ?_⟩
    subst e
    exact h1.1 (h.down x v hx hv (mem_partOf.1 hy).2.2)
  · rcases List.mem_append.1 hx with h2 | h2
    · exact List.mem_append_left _ (h.down x w h2 hw he)
    · have h3 := (mem_partOf.1 h2).2
      have h4 := h3.1.trans he
      rcases h1.2 w hw h4 with h5 | h5
      · exact List.mem_append_right _ (mem_partOf.2 ⟨hw, h4, h5⟩)
      · exact List.mem_append_left _ h5
theorem nodup_le : ∀ (n : Nat) (l : List Nat), l.Nodup → (∀ x ∈ l, x < n) → l.length ≤ n
  | 0, l, _, h => by
    cases l with
    | nil => simp
    | cons a l => exact absurd (h a (by simp)) (by omega)
  | n + 1, l, nd, h => by
    have := nodup_le n (l.erase n) (nd.erase n) (fun x hx => by
      have h1 := (nd.mem_erase_iff).1 hx
      have := h x h1.2
      have := h1.1
      omega)
    rw [List.length_erase] at this
    split at this <;> omega
theorem Listed.full {A : Arcs} {n : Nat} {D : List Nat} (h : Listed A n D) (hl : n ≤ D.length) {v : Nat} (hv : v < n) : v ∈ D := by
  apply Classical.byContradiction
  intro hd
  have := nodup_le n (v :: D) (List.nodup_cons.2 ⟨hd, h.nd⟩) (fun x hx => by
    rcases List.mem_cons.1 hx with rfl | h2
    · exact hv
    · exact h.lt x h2)
  simp at this
  omega
theorem Listed.more {A : Arcs} {n : Nat} {D : List Nat} (h : Listed A n D) : ∀ (k v : Nat), (List.range n).countP (fun w => reachB A v w) ≤ k → v < n → v ∉ D → ∃ w, w < n ∧ readyB A n D w = true := by
  intro k
  induction k with
  | zero =>
    intro v hk hv _
    have h1 : 0 < (List.range n).countP (fun w => reachB A v w) := List.countP_pos_iff.2 ⟨v, List.mem_range.2 hv, (reachB_iff A v v).2 .refl⟩
    omega
  | succ k ih =>
    intro v hk hv hd
    by_cases hr : readyB A n D v = true
    · exact ⟨v, hv, hr⟩
    · have h2 : ∃ w, w < n ∧ RT A v w ∧ ¬ RT A w v ∧ w ∉ D := by
        apply Classical.byContradiction
        intro h3
        apply hr
        rw [readyB_iff]
        refine ⟨hd, fun w hw h4 => ?_⟩
        apply Classical.byContradiction
        intro h5
        exact h3 ⟨w, hw, h4, fun h6 => h5 (.inl h6), fun h6 => h5 (.inr h6)⟩
      obtain ⟨w, hw, h4, h5, h6⟩ := h2
      refine ih w ?_ hw h6
      suffices H : (List.range n).countP (fun x => reachB A w x) < (List.range n).countP (fun x => reachB A v x) by omega
      have e1 : (List.range n).countP (fun x => reachB A v x) = (List.range n).countP (fun x => reachB A v x && reachB A w x) + (List.range n).countP (fun x => reachB A v x && !reachB A w x) := by
        generalize List.range n = L
        induction L with
        | nil => rfl
        | cons a L ih2 =>
          rw [List.countP_cons, List.countP_cons, List.countP_cons, ih2]
          cases reachB A v a <;> cases reachB A w a <;> simp <;> omega
      have e2 : (List.range n).countP (fun x => reachB A v x && reachB A w x) = (List.range n).countP (fun x => reachB A w x) := by
        apply List.countP_congr
        intro x _
        rw [Bool.and_eq_true, reachB_iff, reachB_iff]
        exact ⟨fun h => h.2, fun h => ⟨h4.trans h, h⟩⟩
      have e3 : 0 < (List.range n).countP (fun x => reachB A v x && !reachB A w x) := List.countP_pos_iff.2 ⟨v, List.mem_range.2 hv, by
        rw [Bool.and_eq_true, reachB_iff, Bool.not_eq_true']
        refine ⟨.refl, ?_⟩
        cases h7 : reachB A w v
        · rfl
        · exact absurd ((reachB_iff A w v).1 h7) h5⟩
      omega
theorem find_ready {A : Arcs} {n : Nat} {D : List Nat} {v : Nat} (h : (List.range n).find? (readyB A n D) = some v) : v < n ∧ readyB A n D v = true :=
  ⟨List.mem_range.1 (List.mem_of_find?_eq_some h), List.find?_some h⟩
/-- What the lists are. -/
structure PartsOk (A : Arcs) (n : Nat) (D : List Nat) (L : List (List Nat)) : Prop where
  each : ∀ p ∈ L, ∃ v, v < n ∧ p = partOf A n v
  all : ∀ v, v < n → v ∈ D ∨ ∃ p ∈ L, v ∈ p
  out : ∀ p ∈ L, ∀ x ∈ p, x ∉ D
  nd : L.Pairwise (fun p q => ∀ x ∈ p, x ∉ q)
  down : ∀ (i : Nat) (p : List Nat), L[i]? = some p → ∀ v w, v ∈ p → w < n → RT A v w → w ∈ D ∨ ∃ (j : Nat) (q : List Nat), j ≤ i ∧ L[j]? = some q ∧ w ∈ q
theorem partsGo_ok {A : Arcs} {n : Nat} : ∀ (k : Nat) (D : List Nat), Listed A n D → n ≤ D.length + k → PartsOk A n D (partsGo A n k D)
  | 0, D, h, hk => by
    unfold partsGo
    exact ⟨by simp, fun v hv => .inl (h.full (by omega) hv), by simp, by simp, by simp⟩
  | k + 1, D, h, hk => by
    unfold partsGo
    split
    · rename_i hf
      refine ⟨by simp, fun v hv => .inl ?_, by simp, by simp, by simp⟩
      apply Classical.byContradiction
      intro hd
      obtain ⟨w, hw, hr⟩ := h.more _ v (Nat.le_refl _) hv hd
      exact List.find?_eq_none.1 hf w (List.mem_range.2 hw) hr
    · rename_i v hf
      obtain ⟨hv, hr⟩ := find_ready hf
      have h1 := (readyB_iff A n D v).1 hr
      have hvp : v ∈ partOf A n v := mem_partOf.2 ⟨hv, eqv.refl A v⟩
      have hlen : 1 ≤ (partOf A n v).length := List.length_pos_of_mem hvp
      have ih := partsGo_ok k _ (h.snoc hv hr) (by rw [List.length_append]; omega)
      refine ⟨fun p hp => ?_, fun u hu => ?_, fun p hp x hx hd => ?_, ?_, fun i p hp u w hu hw hr2 => ?_⟩
      · rcases List.mem_cons.1 hp with h2 | h2
        · exact ⟨v, hv, h2⟩
        · exact ih.each p h2
      · rcases ih.all u hu with h2 | ⟨p, h2, h3⟩
        · rcases List.mem_append.1 h2 with h4 | h4
          · exact .inl h4
          · exact .inr ⟨_, List.mem_cons_self, h4⟩
        · exact .inr ⟨p, List.mem_cons_of_mem _ h2, h3⟩
      · rcases List.mem_cons.1 hp with h2 | h2
        · subst h2
          exact h1.1 (h.down x v hd hv (mem_partOf.1 hx).2.2)
        · exact ih.out p h2 x hx (List.mem_append_left _ hd)
      · rw [List.pairwise_cons]
        exact ⟨fun q hq x hx hx2 => ih.out q hq x hx2 (List.mem_append_right _ hx), ih.nd⟩
      · cases i with
        | zero =>
          simp at hp
          subst hp
          have h3 := (mem_partOf.1 hu).2
          have h4 := h3.1.trans hr2
          rcases h1.2 w hw h4 with h5 | h5
          · exact .inr ⟨0, _, Nat.le_refl _, rfl, mem_partOf.2 ⟨hw, h4, h5⟩⟩
          · exact .inl h5
        | succ i =>
          simp at hp
          rcases ih.down i p hp u w hu hw hr2 with h3 | ⟨j, q, h3, h4, h5⟩
          · rcases List.mem_append.1 h3 with h4 | h4
            · exact .inl h4
            · exact .inr ⟨0, _, by omega, rfl, h4⟩
          · exact .inr ⟨j + 1, q, by omega, by simpa using h4, h5⟩
theorem partsOf_ok (A : Arcs) (n : Nat) : PartsOk A n [] (partsOf A n) := partsGo_ok n [] (Listed.nil A n) (by simp)
theorem partsGo_congr {A B : Arcs} (h : ∀ a, a ∈ A ↔ a ∈ B) (n : Nat) : ∀ (k : Nat) (D : List Nat), partsGo A n k D = partsGo B n k D
  | 0, _ => rfl
  | k + 1, D => by
    have e1 : readyB A n D = readyB B n D := by
      funext v
      unfold readyB
      simp only [fun v w => reachB_congr h v w]
    have e2 : ∀ v, partOf A n v = partOf B n v := fun v => by
      unfold partOf eqvB
      simp only [fun v w => reachB_congr h v w]
    unfold partsGo
    rw [e1]
    split
    · rfl
    · rw [e2, partsGo_congr h n k]
theorem partsOf_congr {A B : Arcs} (h : ∀ a, a ∈ A ↔ a ∈ B) (n : Nat) : partsOf A n = partsOf B n := partsGo_congr h n n []

/-- How many arcs lead from the part of a first node to other parts that are not listed. -/
def openOf (A : Arcs) (n : Nat) (D : List Nat) (h : Nat) : Nat := A.countP fun a => hd A n a.1 == h && hd A n a.2 != h && !D.contains a.2
/-- What could come next: the first nodes. -/
def Next (A : Arcs) (n : Nat) (D : List Nat) (h : Nat) : Prop := h < n ∧ hd A n h = h ∧ h ∉ D ∧ openOf A n D h = 0
theorem openOf_zero {A : Arcs} {n : Nat} {D : List Nat} {h : Nat} : openOf A n D h = 0 ↔ ∀ a b, (a, b) ∈ A → hd A n a = h → hd A n b = h ∨ b ∈ D := by
  unfold openOf
  rw [List.countP_eq_zero]
  constructor
  · intro h1 a b hab he
    have h2 := h1 _ hab
    simp [he] at h2
    by_cases h3 : hd A n b = h
    · exact .inl h3
    · exact .inr (h2 h3)
  · rintro h1 ⟨a, b⟩ hab h2
    simp only [Bool.and_eq_true, beq_iff_eq, bne_iff_ne, Bool.not_eq_true', List.contains_eq_mem, decide_eq_false_iff_not] at h2
    rcases h1 a b hab h2.1.1 with h3 | h3
    · exact h2.1.2 h3
    · exact h2.2 h3
theorem next_ready {A : Arcs} {n : Nat} {D : List Nat} (hA : ∀ a ∈ A, a.1 < n ∧ a.2 < n) (hD : Listed A n D) {v : Nat} (hv : v < n) (he : hd A n v = v) : readyB A n D v = true ↔ Next A n D v := by
  rw [readyB_iff]
  unfold Next
  rw [openOf_zero]
  constructor
  · rintro ⟨h1, h2⟩
    refine ⟨hv, he, h1, fun a b hab hda => ?_⟩
    have hb := (hA _ hab).2
    have ha := (hA _ hab).1
    have h3 : eqv A a v := by rw [← hd_iff ha hv, hda, he]
    rcases h2 b hb (h3.2.trans (.one hab)) with h4 | h4
    · refine .inl ?_
      rw [← he, hd_iff hb hv]
      exact ⟨h4, h3.2.trans (.one hab)⟩
    · exact .inr h4
  · rintro ⟨_, _, h1, h2⟩
    refine ⟨h1, fun w hw hr => ?_⟩
    clear hw
    induction hr with
    | refl => exact .inl .refl
    | step h4 h5 ih =>
      rename_i u w
      have hu := (hA _ h5).1
      have hw := (hA _ h5).2
      rcases ih with h6 | h6
      · have h7 : hd A n u = v := by rw [hd_congr hu ⟨h6, h4⟩, he]
        rcases h2 _ _ h5 h7 with h8 | h8
        · rw [← he, hd_iff hw hv] at h8
          exact .inl h8.1
        · exact .inr h8
      · exact .inr (hD.down _ _ h6 hw (.one h5))
/-- The least of what could come next is the next part. -/
theorem next_find {A : Arcs} {n : Nat} {D : List Nat} (hA : ∀ a ∈ A, a.1 < n ∧ a.2 < n) (hD : Listed A n D) {h : Nat} (h1 : Next A n D h) (h2 : ∀ x, Next A n D x → h ≤ x) : (List.range n).find? (readyB A n D) = some h := by
  have hr := (next_ready hA hD h1.1 h1.2.1).2 h1
  rw [List.find?_range_eq_some]
  refine ⟨hr, List.mem_range.2 h1.1, fun j hj => ?_⟩
  cases h3 : readyB A n D j
  · rfl
  · have hjn : j < n := by have := h1.1; omega
    have h4 := (readyB_iff A n D j).1 h3
    have h5 := hd_mem (A := A) hjn
    have h6 : readyB A n D (hd A n j) = true := by
      rw [readyB_iff]
      refine ⟨fun h7 => h4.1 (hD.down _ _ h7 hjn h5.2.2), fun w hw hr2 => ?_⟩
      rcases h4.2 w hw (h5.2.1.trans hr2) with h7 | h7
      · exact .inl (h7.trans h5.2.1)
      · exact .inr h7
    have h7 := h2 _ ((next_ready hA hD h5.1 (hd_idem hjn)).1 h6)
    have h8 := hd_le hjn (eqv.refl A j)
    omega
theorem next_none {A : Arcs} {n : Nat} {D : List Nat} (hA : ∀ a ∈ A, a.1 < n ∧ a.2 < n) (hD : Listed A n D) (h : ∀ x, ¬ Next A n D x) : (List.range n).find? (readyB A n D) = none := by
  rw [List.find?_eq_none]
  intro j hj h3
  have hjn := List.mem_range.1 hj
  have h4 := (readyB_iff A n D j).1 h3
  have h5 := hd_mem (A := A) hjn
  have h6 : readyB A n D (hd A n j) = true := by
    rw [readyB_iff]
    refine ⟨fun h7 => h4.1 (hD.down _ _ h7 hjn h5.2.2), fun w hw hr2 => ?_⟩
    rcases h4.2 w hw (h5.2.1.trans hr2) with h7 | h7
    · exact .inl (h7.trans h5.2.1)
    · exact .inr h7
  exact h _ ((next_ready hA hD h5.1 (hd_idem hjn)).1 h6)
theorem find_next {A : Arcs} {n : Nat} {D : List Nat} (hA : ∀ a ∈ A, a.1 < n ∧ a.2 < n) (hD : Listed A n D) {v : Nat} (h : Next A n D v) : readyB A n D v = true := (next_ready hA hD h.1 h.2.1).2 h
end Go.Proofs.YtmnhnighlgpjmaaGreat

namespace Go.Proofs.YtmnhnighlgpjmaaGreat
set_option linter.unusedVariables false
set_option linter.unusedSimpArgs false

/-- The node before the last one; the last one itself where it is alone. -/
def par (p : List Nat) : Nat := if p.dropLast = [] then lst p else lst p.dropLast
theorem par_one (r : Nat) : par [r] = r := rfl
theorem par_snoc (q : List Nat) (w : Nat) (h : q ≠ []) : par (q ++ [w]) = lst q := by
  unfold par
  rw [List.dropLast_concat, if_neg h]
structure BefOk (n : Nat) (B : List Int) (P : List (List Nat)) : Prop where
  len : B.length = n
  out : ∀ v, v < n → v ∉ P.map lst → B.getD v 0 = -1
  par : ∀ p ∈ P, lst p < n ∧ B.getD (lst p) 0 = (par p : Int)
theorem BefOk.start (n : Nat) : BefOk n (List.replicate n (-1)) [] := by
  refine ⟨by simp, fun v hv _ => ?_, by simp⟩
  rw [List.getD_eq_getElem?_getD, List.getElem?_replicate, if_pos hv]; rfl
theorem BefOk.has {n : Nat} {B : List Int} {P : List (List Nat)} (h : BefOk n B P) {v : Nat} (hv : v < n) : B.getD v 0 = -1 ↔ v ∉ P.map lst := by
  refine ⟨fun h1 h2 => ?_, h.out v hv⟩
  obtain ⟨p, hp, rfl⟩ := List.mem_map.1 h2
  have := (h.par p hp).2
  omega
theorem BefOk.mark {n : Nat} {B : List Int} {P : List (List Nat)} (h : BefOk n B P) {p : List Nat} {v u : Nat} (hv : v < n) (hp : lst p = v) (hu : Go.Proofs.YtmnhnighlgpjmaaGreat.par p = u) (hn : v ∉ P.map lst) : BefOk n (B.set v (u : Int)) (P ++ [p]) := by
  refine ⟨by rw [List.length_set]; exact h.len, fun x hx hxp => ?_, fun r hr => ?_⟩
  · rw [List.map_append, List.mem_append, not_or] at hxp
    have hne : ¬ v = x := fun e => hxp.2 (by simp [hp, e])
    rw [List.getD_eq_getElem?_getD, List.getElem?_set_ne hne, ← List.getD_eq_getElem?_getD]
    exact h.out x hx hxp.1
  · rcases List.mem_append.1 hr with h1 | h1
    · have hne : ¬ v = lst r := fun e => hn (e ▸ List.mem_map_of_mem h1)
      refine ⟨(h.par r h1).1, ?_⟩
      rw [List.getD_eq_getElem?_getD, List.getElem?_set_ne hne, ← List.getD_eq_getElem?_getD]
      exact (h.par r h1).2
    · rw [List.mem_singleton.1 h1, hp, hu]
      refine ⟨hv, ?_⟩
      rw [List.getD_eq_getElem?_getD, List.getElem?_set_self (by rw [h.len]; exact hv)]; rfl
/-- The roots that are nodes. -/
def rootsN (n : Nat) (rs : List Int) : List Nat := (rs.filter fun z : Int => decide (0 ≤ z) && decide (z < (n : Int))).map Int.toNat
theorem mem_rootsN {n : Nat} {rs : List Int} {r : Nat} : r ∈ rootsN n rs ↔ (r : Int) ∈ rs ∧ r < n := by
  unfold rootsN
  simp only [List.mem_map, List.mem_filter, Bool.and_eq_true, decide_eq_true_iff]
  constructor
  · rintro ⟨z, ⟨h1, h2, h3⟩, rfl⟩
    have : ((z.toNat : Nat) : Int) = z := by omega
    rw [this]
    exact ⟨h1, by omega⟩
  · rintro ⟨h1, h2⟩
    exact ⟨(r : Int), ⟨h1, by omega, by omega⟩, by omega⟩
/-- The first k of the sorted roots are entered: L. -/
structure Rt (n : Nat) (rs : List Int) (k : Nat) (L : List Nat) : Prop where
  asc : L.Pairwise (· < ·)
  mem : ∀ r, r ∈ L ↔ (r : Int) ∈ rs.take k ∧ r < n
theorem Rt.start (n : Nat) (rs : List Int) : Rt n rs 0 [] := ⟨by simp, by simp⟩
theorem take_mem {rs : List Int} {k : Nat} (hk : k < rs.length) (z : Int) : z ∈ rs.take (k + 1) ↔ z ∈ rs.take k ∨ z = rs[k] := by
  rw [List.take_succ_eq_append_getElem hk, List.mem_append, List.mem_singleton]
theorem Rt.bad {n : Nat} {rs : List Int} {k : Nat} {L : List Nat} (h : Rt n rs k L) (hk : k < rs.length) (hz : ¬ (0 ≤ rs[k] ∧ rs[k] < n)) : Rt n rs (k + 1) L := by
  refine ⟨h.asc, fun r => ?_⟩
  rw [h.mem, take_mem hk]
  refine ⟨fun h1 => ⟨.inl h1.1, h1.2⟩, fun h1 => ⟨?_, h1.2⟩⟩
  rcases h1.1 with h2 | h2
  · exact h2
  · exact absurd ⟨by omega, by omega⟩ hz
theorem Rt.old {n : Nat} {rs : List Int} {k : Nat} {L : List Nat} (h : Rt n rs k L) (hk : k < rs.length) {r : Nat} (hr : rs[k] = (r : Int)) (hm : r ∈ L) : Rt n rs (k + 1) L := by
  refine ⟨h.asc, fun x => ?_⟩
  rw [h.mem, take_mem hk]
  refine ⟨fun h1 => ⟨.inl h1.1, h1.2⟩, fun h1 => ⟨?_, h1.2⟩⟩
  rcases h1.1 with h2 | h2
  · exact h2
  · have : x = r := by omega
    rw [this]; exact ((h.mem r).1 hm).1
theorem Rt.new {n : Nat} {rs : List Int} {k : Nat} {L : List Nat} (h : Rt n rs k L) (hs : rs.Pairwise (· ≤ ·)) (hk : k < rs.length) {r : Nat} (hr : rs[k] = (r : Int)) (hn : r < n) (hm : r ∉ L) : Rt n rs (k + 1) (L ++ [r]) := by
  refine ⟨?_, fun x => ?_⟩
  · rw [List.pairwise_append]
    refine ⟨h.asc, by simp, fun x hx y hy => ?_⟩
    rw [List.mem_singleton.1 hy]
    have h1 := ((h.mem x).1 hx).1
    obtain ⟨i, hi, h2⟩ := List.getElem_of_mem h1
    rw [List.length_take] at hi
    rw [List.getElem_take] at h2
    have h3 := List.pairwise_iff_getElem.1 hs i k (by omega) hk (by omega)
    have h4 : x ≠ r := fun e => hm (e ▸ hx)
    omega
  · rw [List.mem_append, h.mem, take_mem hk, List.mem_singleton]
    constructor
    · rintro (h1 | h1)
      · exact ⟨.inl h1.1, h1.2⟩
      · subst h1; exact ⟨.inr hr.symm, hn⟩
    · rintro ⟨h1 | h1, h2⟩
      · exact .inl ⟨h1, h2⟩
      · right; omega
def one (r : Nat) : List Nat := [r]
theorem map_one (L : List Nat) : (L.map one).map lst = L := by
  rw [List.map_map]
  have : (lst ∘ one) = id := by funext r; rfl
  rw [this, List.map_id]
theorem Rt.bfs {A : Arcs} {n : Nat} {rs rs0 : List Int} {L : List Nat} (h : Rt n rs rs.length L) (hp : rs.Perm rs0) : Bfs A (rootsN n rs0) (L.map one) 0 [] := by
  refine Bfs.start A (fun r => ?_) h.asc
  rw [h.mem, mem_rootsN, List.take_length, hp.mem_iff]
/-- What a search has found. -/
structure Found (A : Arcs) (R : List Nat) (n : Nat) (B : List Int) (P : List (List Nat)) : Prop where
  ways : Ways A R P
  bef : BefOk n B P
end Go.Proofs.YtmnhnighlgpjmaaGreat

namespace Go.Proofs.YtmnhnighlgpjmaaGreat
set_option linter.unusedVariables false
set_option linter.unusedSimpArgs false

theorem Fol.rtl {A : Arcs} {p : List Nat} {r : Nat} (h : Fol A p) (h0 : p[0]? = some r) : RT A r (lst p) := by
  cases p with
  | nil => simp at h0
  | cons a l =>
    simp at h0
    subst h0
    refine Fol.rt h _ ?_
    have := eq_snoc (p := a :: l) (by simp)
    rw [this]; simp
theorem Ways.iff {A : Arcs} {R : List Nat} {P : List (List Nat)} (h : Ways A R P) (v : Nat) : v ∈ P.map lst ↔ ∃ r ∈ R, RT A r v := by
  constructor
  · intro hv
    obtain ⟨p, hp, rfl⟩ := List.mem_map.1 hv
    obtain ⟨r, hr, h0⟩ := h.beg p hp
    exact ⟨r, hr, (h.fol p hp).rtl h0⟩
  · rintro ⟨r, hr, hrt⟩
    obtain ⟨l, h1, h2⟩ := hrt.way
    obtain ⟨p, hp, h3, _⟩ := h.all (l ++ [v]) (by simp) h1 ⟨r, hr, h2⟩
    rw [lst_snoc] at h3
    exact h3 ▸ List.mem_map_of_mem hp
theorem Ways.inj {A : Arcs} {R : List Nat} {P : List (List Nat)} (h : Ways A R P) {p q : List Nat} (hp : p ∈ P) (hq : q ∈ P) (e : lst p = lst q) : p = q := by
  obtain ⟨i, hi, rfl⟩ := List.getElem_of_mem hp
  obtain ⟨j, hj, rfl⟩ := List.getElem_of_mem hq
  have h1 := h.nd
  rw [List.nodup_iff_pairwise_ne, List.pairwise_iff_getElem] at h1
  rcases Nat.lt_trichotomy i j with h2 | h2 | h2
  · have := h1 i j (by simpa using hi) (by simpa using hj) h2
    simp at this; exact absurd e this
  · subst h2; rfl
  · have := h1 j i (by simpa using hj) (by simpa using hi) h2
    simp at this; exact absurd e.symm this
/-- What is reached from the roots, ascending. -/
def reachOf (A : Arcs) (n : Nat) (R : List Nat) : List Nat := (List.range n).filter fun v => R.any fun r => reachB A r v
theorem mem_reachOf {A : Arcs} {n : Nat} {R : List Nat} {v : Nat} : v ∈ reachOf A n R ↔ v < n ∧ ∃ r ∈ R, RT A r v := by
  unfold reachOf
  rw [List.mem_filter, List.mem_range, List.any_eq_true]
  constructor
  · rintro ⟨h1, r, h2, h3⟩; exact ⟨h1, r, h2, (reachB_iff A r v).1 h3⟩
  · rintro ⟨h1, r, h2, h3⟩; exact ⟨h1, r, h2, (reachB_iff A r v).2 h3⟩
theorem reachOf_asc (A : Arcs) (n : Nat) (R : List Nat) : (reachOf A n R).Pairwise (· < ·) := List.pairwise_lt_range.filter _
theorem Found.reach {A : Arcs} {R : List Nat} {n : Nat} {B : List Int} {P : List (List Nat)} (h : Found A R n B P) : (List.range n).filter (fun v => !(B.getD v 0 == -1)) = reachOf A n R := by
  unfold reachOf
  apply List.filter_congr
  intro v hv
  have hv2 := List.mem_range.1 hv
  rw [Bool.eq_iff_iff, List.any_eq_true, Bool.not_eq_true', beq_eq_false_iff_ne, ne_eq, h.bef.has hv2, Classical.not_not, h.ways.iff]
  constructor
  · rintro ⟨r, h1, h2⟩; exact ⟨r, h1, (reachB_iff A r v).2 h2⟩
  · rintro ⟨r, h1, h2⟩; exact ⟨r, h1, (reachB_iff A r v).1 h2⟩
/-- The least of the shortest ways from a root to a node; nothing where there is none. -/
def WayOk (A : Arcs) (R : List Nat) (to : Nat) (l : List Nat) : Prop :=
  (l = [] ∧ ∀ r ∈ R, ¬ RT A r to) ∨ (l ≠ [] ∧ Fol A l ∧ (∃ r ∈ R, l[0]? = some r) ∧ lst l = to ∧ ∀ m : List Nat, m ≠ [] → Fol A m → (∃ r ∈ R, m[0]? = some r) → lst m = to → ¬ sl m l)
theorem WayOk.unique {A : Arcs} {R : List Nat} {to : Nat} {l m : List Nat} (h : WayOk A R to l) (h2 : WayOk A R to m) : l = m := by
  rcases h with ⟨rfl, h⟩ | ⟨h1, h3, ⟨r, h4, h5⟩, h6, h7⟩ <;> rcases h2 with ⟨rfl, g⟩ | ⟨g1, g3, ⟨s, g4, g5⟩, g6, g7⟩
  · rfl
  · exact absurd (g6 ▸ g3.rtl g5) (h s g4)
  · exact absurd (h6 ▸ h3.rtl h5) (g r h4)
  · rcases sl_tri l m with e | e | e
    · exact absurd e (g7 l h1 h3 ⟨r, h4, h5⟩ h6)
    · exact e
    · exact absurd e (h7 m g1 g3 ⟨s, g4, g5⟩ g6)
theorem WayOk.congr {A A2 : Arcs} {R R2 : List Nat} {to : Nat} {l : List Nat} (h : WayOk A R to l) (hA : ∀ a, a ∈ A ↔ a ∈ A2) (hR : ∀ r, r ∈ R ↔ r ∈ R2) : WayOk A2 R2 to l := by
  have hF : ∀ m, Fol A m ↔ Fol A2 m := fun m => ⟨fun h i x y a b => (hA _).1 (h i x y a b), fun h i x y a b => (hA _).2 (h i x y a b)⟩
  have hT : ∀ r v, RT A r v ↔ RT A2 r v := fun r v => ⟨fun h => h.mono fun a ha => (hA a).1 ha, fun h => h.mono fun a ha => (hA a).2 ha⟩
  rcases h with ⟨h1, h2⟩ | ⟨h1, h2, ⟨r, h3, h4⟩, h5, h6⟩
  · exact .inl ⟨h1, fun r hr ht => h2 r ((hR r).2 hr) ((hT r to).2 ht)⟩
  · refine .inr ⟨h1, (hF l).1 h2, ⟨r, (hR r).1 h3, h4⟩, h5, fun m g1 g2 g3 g4 => ?_⟩
    obtain ⟨s, g5, g6⟩ := g3
    exact h6 m g1 ((hF m).2 g2) ⟨s, (hR s).2 g5, g6⟩ g4
theorem Found.none {A : Arcs} {R : List Nat} {n : Nat} {B : List Int} {P : List (List Nat)} (h : Found A R n B P) {to : Nat} (ht : to < n) (hb : B.getD to 0 = -1) : WayOk A R to [] := by
  refine .inl ⟨rfl, fun r hr hrt => ?_⟩
  exact (h.bef.has ht).1 hb ((h.ways.iff to).2 ⟨r, hr, hrt⟩)
theorem Found.way {A : Arcs} {R : List Nat} {n : Nat} {B : List Int} {P : List (List Nat)} (h : Found A R n B P) {p : List Nat} (hp : p ∈ P) : WayOk A R (lst p) p := by
  refine .inr ⟨h.ways.ne p hp, h.ways.fol p hp, h.ways.beg p hp, rfl, fun m h1 h2 h3 h4 => ?_⟩
  obtain ⟨q, hq, h5, h6⟩ := h.ways.all m h1 h2 h3
  have := h.ways.inj hq hp (by rw [h5, h4])
  rw [← this]; exact h6
theorem Found.at {A : Arcs} {R : List Nat} {n : Nat} {B : List Int} {P : List (List Nat)} (h : Found A R n B P) {to : Nat} (ht : to < n) (hb : B.getD to 0 ≠ -1) : ∃ p ∈ P, lst p = to := by
  have : to ∈ P.map lst := by
    apply Classical.byContradiction
    intro h1; exact hb ((h.bef.has ht).2 h1)
  obtain ⟨p, hp, e⟩ := List.mem_map.1 this
  exact ⟨p, hp, e⟩
/-- One step back along a way. -/
theorem Found.step {A : Arcs} {R : List Nat} {n : Nat} {B : List Int} {P : List (List Nat)} (h : Found A R n B P) {q : List Nat} (hq : q ∈ P) : lst q < n ∧ B.getD (lst q) 0 = (par q : Int) ∧ ((q = [lst q] ∧ par q = lst q) ∨ ∃ q2 ∈ P, q = q2 ++ [lst q] ∧ par q = lst q2 ∧ lst q2 ≠ lst q ∧ q2.length + 1 = q.length) := by
  obtain ⟨h1, h2⟩ := h.bef.par q hq
  refine ⟨h1, h2, ?_⟩
  rcases h.ways.pc q hq with h3 | ⟨q2, h3, h4⟩
  · left
    obtain ⟨x, rfl⟩ := List.length_eq_one_iff.1 h3
    exact ⟨rfl, rfl⟩
  · right
    have hne := h.ways.ne q2 h3
    have hl : q2.length + 1 = q.length := by rw [h4]; simp
    refine ⟨q2, h3, h4, by rw [h4, par_snoc q2 _ hne], fun e => ?_, hl⟩
    have := h.ways.inj h3 hq e
    rw [this] at hl; omega
end Go.Proofs.YtmnhnighlgpjmaaGreat
