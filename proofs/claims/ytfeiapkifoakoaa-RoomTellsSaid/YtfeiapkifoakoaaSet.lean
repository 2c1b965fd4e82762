/-
  Spans as plain data: right lists, their addresses, adding, cutting, counting, finding a place.
-/
import Derived.Test.YtfeiapkifoakoaaChecked
namespace Go.Proofs.Ytfeiapkifoakoaa
set_option linter.unusedVariables false
set_option linter.unusedSimpArgs false

structure Sp where
  p : Int
  n : Int
deriving DecidableEq, Inhabited
def Sp.e (s : Sp) : Int := s.p + s.n
def Sp.ok (s : Sp) : Prop := 0 ≤ s.p ∧ s.p ≤ 1099511627776 ∧ 0 ≤ s.n ∧ s.n ≤ 1099511627776 - s.p
instance (s : Sp) : Decidable s.ok := by unfold Sp.ok; infer_instance
def gt (l : List Sp) (i : Nat) : Sp := l.getD i ⟨0, 0⟩
theorem gt_get (l : List Sp) (i : Nat) (h : i < l.length) : gt l i = l[i] := by simp [gt, List.getD_eq_getElem?_getD, h]
/-- Place i of a list is as a right list has it. -/
def good (l : List Sp) (i : Nat) : Prop := (gt l i).ok ∧ (gt l i).n ≠ 0 ∧ (0 < i → (gt l (i - 1)).e < (gt l i).p)
def right (l : List Sp) : Prop := ∀ i, i < l.length → good l i
instance (l : List Sp) (i : Nat) : Decidable (good l i) := by unfold good; infer_instance
instance (l : List Sp) : Decidable (right l) := Nat.decidableBallLT l.length fun i _ => good l i

theorem right_nil : right [] := fun i h => by simp at h
theorem right_cons (x : Sp) (l : List Sp) : right (x :: l) ↔ x.ok ∧ 0 < x.n ∧ (∀ y ∈ l.head?, x.e < y.p) ∧ right l := by
  constructor
  · intro h
    have h0 := h 0 (by simp)
    have e0 : gt (x :: l) 0 = x := rfl
    refine ⟨by rw [← e0]; exact h0.1, ?_, ?_, ?_⟩
    · have h1 := h0.1
      have h2 := h0.2.1
      rw [e0] at h1 h2
      unfold Sp.ok at h1; omega
    · intro y hy
      cases l with
      | nil => simp at hy
      | cons z l =>
        simp at hy; subst hy
        exact (h 1 (by simp)).2.2 (by omega)
    · intro i hi
      have h1 := h (i + 1) (by simp; omega)
      refine ⟨h1.1, h1.2.1, fun h0 => ?_⟩
      have := h1.2.2 (by omega)
      obtain ⟨j, rfl⟩ : ∃ j, i = j + 1 := ⟨i - 1, by omega⟩
      exact this
  · rintro ⟨h1, h2, h3, h4⟩ i hi
    cases i with
    | zero => exact ⟨h1, by show x.n ≠ 0; omega, fun h => by omega⟩
    | succ i =>
      have h5 := h4 i (by simpa using hi)
      refine ⟨h5.1, h5.2.1, fun _ => ?_⟩
      cases i with
      | zero =>
        cases l with
        | nil => simp at hi
        | cons z l => exact h3 z (by simp)
      | succ j => exact h5.2.2 (by omega)
theorem right_tail {x : Sp} {l : List Sp} (h : right (x :: l)) : right l := ((right_cons x l).1 h).2.2.2
/-- The spans behind the first one lie behind its end. -/
theorem right_behind {x : Sp} : ∀ {l : List Sp}, right (x :: l) → ∀ y ∈ l, x.e < y.p
  | [], _, y, hy => by simp at hy
  | z :: l, h, y, hy => by
    obtain ⟨_, _, h3, h4⟩ := (right_cons x _).1 h
    have hz : x.e < z.p := h3 z (by simp)
    rcases List.mem_cons.1 hy with rfl | hy
    · exact hz
    · have := right_behind h4 y hy
      have h5 := ((right_cons z l).1 h4).2.1
      unfold Sp.e at *; omega
theorem right_ok {l : List Sp} (h : right l) : ∀ x ∈ l, x.ok ∧ 0 < x.n := fun x hx => by
  obtain ⟨i, hi, rfl⟩ := List.mem_iff_getElem.1 hx
  have h1 := h i hi
  have h2 := h1.1
  have h3 := h1.2.1
  rw [gt_get l i hi] at h2 h3
  exact ⟨h2, by unfold Sp.ok at h2; omega⟩

/-- An address is in a span. -/
def Sp.has (s : Sp) (a : Int) : Prop := s.p ≤ a ∧ a < s.e
instance (s : Sp) (a : Int) : Decidable (s.has a) := by unfold Sp.has; infer_instance
def inn (l : List Sp) (a : Int) : Prop := ∃ x ∈ l, x.has a
instance (l : List Sp) (a : Int) : Decidable (inn l a) := List.decidableBEx (fun x : Sp => x.has a) l
theorem inn_nil (a : Int) : ¬ inn [] a := by rintro ⟨x, hx, _⟩; simp at hx
theorem inn_cons (x : Sp) (l : List Sp) (a : Int) : inn (x :: l) a ↔ x.has a ∨ inn l a := by
  unfold inn; simp
theorem inn_append (l m : List Sp) (a : Int) : inn (l ++ m) a ↔ inn l a ∨ inn m a := by
  unfold inn
  constructor
  · rintro ⟨x, hx, h⟩
    rcases List.mem_append.1 hx with hx | hx
    · exact .inl ⟨x, hx, h⟩
    · exact .inr ⟨x, hx, h⟩
  · rintro (⟨x, hx, h⟩ | ⟨x, hx, h⟩)
    · exact ⟨x, List.mem_append_left _ hx, h⟩
    · exact ⟨x, List.mem_append_right _ hx, h⟩
theorem inn_bound {l : List Sp} (h : right l) {a : Int} (ha : inn l a) : 0 ≤ a ∧ a < 1099511627776 := by
  obtain ⟨x, hx, h1, h2⟩ := ha
  obtain ⟨h3, _⟩ := right_ok h x hx
  unfold Sp.ok at h3; unfold Sp.e at h2; omega
theorem inn_behind {x : Sp} {l : List Sp} (h : right (x :: l)) {a : Int} (ha : inn l a) : x.e < a := by
  obtain ⟨y, hy, h1, _⟩ := ha
  have := right_behind h y hy
  omega

/-- A set of addresses has one right list. -/
theorem right_unique : ∀ {l m : List Sp}, right l → right m → (∀ a, inn l a ↔ inn m a) → l = m
  | [], [], _, _, _ => rfl
  | [], y :: m, _, hm, h => by
    obtain ⟨h1, h2, _⟩ := (right_cons y m).1 hm
    exact absurd ((h y.p).2 ((inn_cons y m y.p).2 (.inl ⟨Int.le_refl _, by unfold Sp.e; omega⟩))) (inn_nil _)
  | x :: l, [], hl, _, h => by
    obtain ⟨h1, h2, _⟩ := (right_cons x l).1 hl
    exact absurd ((h x.p).1 ((inn_cons x l x.p).2 (.inl ⟨Int.le_refl _, by unfold Sp.e; omega⟩))) (inn_nil _)
  | x :: l, y :: m, hl, hm, h => by
    obtain ⟨_, x2, _, hl'⟩ := (right_cons x l).1 hl
    obtain ⟨_, y2, _, hm'⟩ := (right_cons y m).1 hm
    have hx : inn (x :: l) x.p := (inn_cons _ _ _).2 (.inl ⟨Int.le_refl _, by unfold Sp.e; omega⟩)
    have hy : inn (y :: m) y.p := (inn_cons _ _ _).2 (.inl ⟨Int.le_refl _, by unfold Sp.e; omega⟩)
    have ep : x.p = y.p := by
      have h1 := (h x.p).1 hx
      have h2 := (h y.p).2 hy
      have h3 : y.p ≤ x.p := by
        rcases (inn_cons _ _ _).1 h1 with h3 | h3
        · exact h3.1
        · have := inn_behind hm h3; unfold Sp.e at this; omega
      have h4 : x.p ≤ y.p := by
        rcases (inn_cons _ _ _).1 h2 with h3 | h3
        · exact h3.1
        · have := inn_behind hl h3; unfold Sp.e at this; omega
      omega
    have nx : ¬ inn (x :: l) x.e := by
      intro hc
      rcases (inn_cons _ _ _).1 hc with h3 | h3
      · have := h3.2; omega
      · have := inn_behind hl h3; omega
    have ny : ¬ inn (y :: m) y.e := by
      intro hc
      rcases (inn_cons _ _ _).1 hc with h3 | h3
      · have := h3.2; omega
      · have := inn_behind hm h3; omega
    have ee : x.e = y.e := by
      rcases Int.lt_trichotomy x.e y.e with hlt | heq | hlt
      · exact absurd ((h x.e).2 ((inn_cons _ _ _).2 (.inl ⟨by unfold Sp.e; omega, hlt⟩))) nx
      · exact heq
      · exact absurd ((h y.e).1 ((inn_cons _ _ _).2 (.inl ⟨by unfold Sp.e; omega, hlt⟩))) ny
    have exy : x = y := by
      cases x; cases y
      unfold Sp.e at ee
      simp only at ep ee
      subst ep
      congr 1; omega
    subst exy
    congr 1
    refine right_unique hl' hm' fun a => ?_
    constructor
    · intro ha
      have hb := inn_behind hl ha
      rcases (inn_cons _ _ _).1 ((h a).1 ((inn_cons _ _ _).2 (.inr ha))) with h3 | h3
      · have := h3.2; omega
      · exact h3
    · intro ha
      have hb := inn_behind hm ha
      rcases (inn_cons _ _ _).1 ((h a).2 ((inn_cons _ _ _).2 (.inr ha))) with h3 | h3
      · have := h3.2; omega
      · exact h3

/-! Adding -/
def hull (x s : Sp) : Sp := ⟨min x.p s.p, max x.e s.e - min x.p s.p⟩
def addS : List Sp → Sp → List Sp
  | [], s => [s]
  | x :: l, s => if x.e < s.p then x :: addS l s else if s.e < x.p then s :: x :: l else addS l (hull x s)
theorem hull_ok {x s : Sp} (hx : x.ok) (hs : s.ok) (h : 0 < s.n) : (hull x s).ok ∧ 0 < (hull x s).n := by
  unfold Sp.ok hull Sp.e at *
  simp only
  omega
theorem hull_has {x s : Sp} (hx : 0 < x.n) (hs : 0 < s.n) (h1 : ¬ x.e < s.p) (h2 : ¬ s.e < x.p) (a : Int) : (hull x s).has a ↔ x.has a ∨ s.has a := by
  unfold Sp.has hull Sp.e at *
  simp only
  omega
theorem hull_e (x s : Sp) : (hull x s).e = max x.e s.e := by unfold hull Sp.e; simp only; omega
theorem addS_mem : ∀ (l : List Sp) (s : Sp), right l → s.ok → 0 < s.n → ∀ a, inn (addS l s) a ↔ inn l a ∨ s.has a
  | [], s, _, _, _, a => by rw [addS, inn_cons]; simp [inn_nil]
  | x :: l, s, hr, hs, h0, a => by
    obtain ⟨x1, x2, x3, x4⟩ := (right_cons x l).1 hr
    rw [addS]
    by_cases h1 : x.e < s.p
    · rw [if_pos h1, inn_cons, inn_cons, addS_mem l s x4 hs h0 a, or_assoc]
    · rw [if_neg h1]
      by_cases h2 : s.e < x.p
      · rw [if_pos h2, inn_cons]; exact or_comm
      · rw [if_neg h2]
        have hh := hull_ok x1 hs h0
        rw [addS_mem l (hull x s) x4 hh.1 hh.2 a, hull_has x2 h0 h1 h2, inn_cons]
        constructor
        · rintro (h | h | h)
          · exact .inl (.inr h)
          · exact .inl (.inl h)
          · exact .inr h
        · rintro ((h | h) | h)
          · exact .inr (.inl h)
          · exact .inl h
          · exact .inr (.inr h)
theorem addS_lower : ∀ (l : List Sp) (s : Sp) (c : Int), c < s.p → (∀ x ∈ l, c < x.p) → ∀ y ∈ addS l s, c < y.p
  | [], s, c, hs, _, y, hy => by simp [addS] at hy; subst hy; exact hs
  | x :: l, s, c, hs, hl, y, hy => by
    have hx := hl x (by simp)
    have hl' : ∀ z ∈ l, c < z.p := fun z hz => hl z (by simp [hz])
    rw [addS] at hy
    by_cases h1 : x.e < s.p
    · rw [if_pos h1] at hy
      rcases List.mem_cons.1 hy with rfl | hy
      · exact hx
      · exact addS_lower l s c hs hl' y hy
    · rw [if_neg h1] at hy
      by_cases h2 : s.e < x.p
      · rw [if_pos h2] at hy
        rcases List.mem_cons.1 hy with rfl | hy
        · exact hs
        · exact hl y hy
      · rw [if_neg h2] at hy
        exact addS_lower l (hull x s) c (by unfold hull; simp only; omega) hl' y hy
theorem addS_right : ∀ (l : List Sp) (s : Sp), right l → s.ok → 0 < s.n → right (addS l s)
  | [], s, _, hs, h0 => (right_cons s []).2 ⟨hs, h0, fun y hy => by simp at hy, right_nil⟩
  | x :: l, s, hr, hs, h0 => by
    obtain ⟨x1, x2, x3, x4⟩ := (right_cons x l).1 hr
    rw [addS]
    by_cases h1 : x.e < s.p
    · rw [if_pos h1]
      exact (right_cons _ _).2 ⟨x1, x2, fun y hy => addS_lower l s x.e h1 (right_behind hr) y (List.mem_of_mem_head? hy), addS_right l s x4 hs h0⟩
    · rw [if_neg h1]
      by_cases h2 : s.e < x.p
      · rw [if_pos h2]
        exact (right_cons _ _).2 ⟨hs, h0, fun y hy => by simp at hy; subst hy; exact h2, hr⟩
      · rw [if_neg h2]
        have hh := hull_ok x1 hs h0
        exact addS_right l (hull x s) x4 hh.1 hh.2
/-- Add, as the document says it. -/
def addL (l : List Sp) (s : Sp) : List Sp := if right l ∧ s.ok ∧ 0 < s.n then addS l s else l
theorem addL_right {l : List Sp} (s : Sp) (h : right l) : right (addL l s) := by
  unfold addL
  split
  · rename_i hc; exact addS_right l s hc.1 hc.2.1 hc.2.2
  · exact h
theorem addL_mem {l : List Sp} {s : Sp} (h : right l) (hs : s.ok) (a : Int) : inn (addL l s) a ↔ inn l a ∨ s.has a := by
  unfold addL
  by_cases h0 : 0 < s.n
  · rw [if_pos ⟨h, hs, h0⟩]; exact addS_mem l s h hs h0 a
  · rw [if_neg (fun hc => h0 hc.2.2)]
    constructor
    · exact .inl
    · rintro (h1 | h1)
      · exact h1
      · unfold Sp.has Sp.e at h1; omega
theorem addL_bad {l : List Sp} {s : Sp} (h : ¬ (right l ∧ s.ok)) : addL l s = l := by
  unfold addL; rw [if_neg (fun hc => h ⟨hc.1, hc.2.1⟩)]

/-! Cutting -/
def cut1 (x s : Sp) : List Sp := (if x.p < s.p then [⟨x.p, min x.e s.p - x.p⟩] else []) ++ (if s.e < x.e then [⟨max x.p s.e, x.e - max x.p s.e⟩] else [])
def cutS (l : List Sp) (s : Sp) : List Sp := l.flatMap fun x => cut1 x s
theorem cut1_mem {x s : Sp} (hx : 0 < x.n) (hs : 0 < s.n) (a : Int) : inn (cut1 x s) a ↔ x.has a ∧ ¬ s.has a := by
  unfold cut1
  rw [inn_append]
  have e1 : inn (if x.p < s.p then [⟨x.p, min x.e s.p - x.p⟩] else []) a ↔ x.p < s.p ∧ x.p ≤ a ∧ a < min x.e s.p := by
    split
    · rw [inn_cons]
      constructor
      · rintro (h | h)
        · unfold Sp.has Sp.e at h; simp only at h; unfold Sp.e; omega
        · exact absurd h (inn_nil _)
      · rintro ⟨_, h⟩
        left; unfold Sp.has Sp.e; simp only; unfold Sp.e at h; omega
    · constructor
      · intro h; exact absurd h (inn_nil _)
      · rintro ⟨h, _⟩; omega
  have e2 : inn (if s.e < x.e then [⟨max x.p s.e, x.e - max x.p s.e⟩] else []) a ↔ s.e < x.e ∧ max x.p s.e ≤ a ∧ a < x.e := by
    split
    · rw [inn_cons]
      constructor
      · rintro (h | h)
        · unfold Sp.has Sp.e at h; simp only at h; unfold Sp.e at *; omega
        · exact absurd h (inn_nil _)
      · rintro ⟨_, h⟩
        left; unfold Sp.has Sp.e; simp only; unfold Sp.e at h; omega
    · constructor
      · intro h; exact absurd h (inn_nil _)
      · rintro ⟨h, _⟩; omega
  rw [e1, e2]
  unfold Sp.has Sp.e
  omega
theorem cutS_mem {l : List Sp} {s : Sp} (h : right l) (hs : 0 < s.n) (a : Int) : inn (cutS l s) a ↔ inn l a ∧ ¬ s.has a := by
  induction l with
  | nil => simp [cutS, inn_nil]
  | cons x l ih =>
    obtain ⟨x1, x2, x3, x4⟩ := (right_cons x l).1 h
    have e : cutS (x :: l) s = cut1 x s ++ cutS l s := rfl
    rw [e, inn_append, cut1_mem x2 hs, ih x4, inn_cons]
    constructor
    · rintro (h | h)
      · exact ⟨.inl h.1, h.2⟩
      · exact ⟨.inr h.1, h.2⟩
    · rintro ⟨h | h, h2⟩
      · exact .inl ⟨h, h2⟩
      · exact .inr ⟨h, h2⟩
theorem cut1_in {x s : Sp} (hx : x.ok) (hn : 0 < x.n) (hs : s.ok) (h0 : 0 < s.n) : ∀ y ∈ cut1 x s, x.p ≤ y.p ∧ y.e ≤ x.e ∧ 0 < y.n := by
  intro y hy
  unfold cut1 at hy
  rcases List.mem_append.1 hy with hy | hy
  · split at hy
    · simp at hy; subst hy
      unfold Sp.ok Sp.e at *; simp only; omega
    · simp at hy
  · split at hy
    · simp at hy; subst hy
      unfold Sp.ok Sp.e at *; simp only; omega
    · simp at hy
theorem cutS_lower {l : List Sp} {s : Sp} (h : right l) (hs : s.ok) (h0 : 0 < s.n) (c : Int) (hc : ∀ x ∈ l, c < x.p) : ∀ y ∈ cutS l s, c < y.p := by
  intro y hy
  obtain ⟨x, hx, hy⟩ := List.mem_flatMap.1 hy
  have h1 := right_ok h x hx
  have h2 := cut1_in h1.1 h1.2 hs h0 y hy
  have := hc x hx
  omega
theorem right_append {l m : List Sp} (hl : right l) (hm : right m) (h : ∀ x ∈ l, ∀ y ∈ m, x.e < y.p) : right (l ++ m) := by
  induction l with
  | nil => exact hm
  | cons x l ih =>
    obtain ⟨x1, x2, x3, x4⟩ := (right_cons x l).1 hl
    refine (right_cons x (l ++ m)).2 ⟨x1, x2, fun y hy => ?_, ih x4 fun z hz => h z (by simp [hz])⟩
    rcases List.mem_append.1 (List.mem_of_mem_head? hy) with h1 | h1
    · exact right_behind hl y h1
    · exact h x (by simp) y h1
theorem cut1_right {x s : Sp} (hx : x.ok) (hn : 0 < x.n) (hs : s.ok) (h0 : 0 < s.n) : right (cut1 x s) := by
  unfold cut1
  refine right_append ?_ ?_ ?_
  · split
    · refine (right_cons _ _).2 ⟨?_, ?_, fun y hy => by simp at hy, right_nil⟩
      · unfold Sp.ok Sp.e at *; simp only; omega
      · unfold Sp.e at *; simp only; omega
    · exact right_nil
  · split
    · refine (right_cons _ _).2 ⟨?_, ?_, fun y hy => by simp at hy, right_nil⟩
      · unfold Sp.ok Sp.e at *; simp only; omega
      · unfold Sp.e at *; simp only; omega
    · exact right_nil
  · intro y hy z hz
    split at hy
    · split at hz
      · simp at hy hz; subst hy; subst hz
        unfold Sp.ok Sp.e at *; simp only; omega
      · simp at hz
    · simp at hy
theorem cutS_right {l : List Sp} {s : Sp} (h : right l) (hs : s.ok) (h0 : 0 < s.n) : right (cutS l s) := by
  induction l with
  | nil => exact right_nil
  | cons x l ih =>
    obtain ⟨x1, x2, x3, x4⟩ := (right_cons x l).1 h
    have e : cutS (x :: l) s = cut1 x s ++ cutS l s := rfl
    rw [e]
    refine right_append (cut1_right x1 x2 hs h0) (ih x4) fun y hy z hz => ?_
    have h1 := cut1_in x1 x2 hs h0 y hy
    have h2 := cutS_lower x4 hs h0 x.e (right_behind h) z hz
    omega
/-- Cut, as the document says it. -/
def cutL (l : List Sp) (s : Sp) : List Sp := if right l ∧ s.ok ∧ 0 < s.n then cutS l s else l
theorem cutL_right {l : List Sp} (s : Sp) (h : right l) : right (cutL l s) := by
  unfold cutL
  split
  · rename_i hc; exact cutS_right hc.1 hc.2.1 hc.2.2
  · exact h
theorem cutL_mem {l : List Sp} {s : Sp} (h : right l) (hs : s.ok) (a : Int) : inn (cutL l s) a ↔ inn l a ∧ ¬ s.has a := by
  unfold cutL
  by_cases h0 : 0 < s.n
  · rw [if_pos ⟨h, hs, h0⟩]; exact cutS_mem h h0 a
  · rw [if_neg (fun hc => h0 hc.2.2)]
    constructor
    · exact fun h1 => ⟨h1, by unfold Sp.has Sp.e; omega⟩
    · exact fun h1 => h1.1
theorem cutL_bad {l : List Sp} {s : Sp} (h : ¬ (right l ∧ s.ok)) : cutL l s = l := by
  unfold cutL; rw [if_neg (fun hc => h ⟨hc.1, hc.2.1⟩)]

/-! Counting -/
def tot (l : List Sp) : Int := (l.map Sp.n).sum
theorem tot_cons (x : Sp) (l : List Sp) : tot (x :: l) = x.n + tot l := rfl
def cnt (P : Nat → Bool) : Nat → Nat
  | 0 => 0
  | n + 1 => cnt P n + (if P n then 1 else 0)
theorem cnt_congr {P Q : Nat → Bool} : ∀ {n : Nat}, (∀ a, a < n → P a = Q a) → cnt P n = cnt Q n
  | 0, _ => rfl
  | n + 1, h => by rw [cnt, cnt, cnt_congr fun a ha => h a (by omega), h n (by omega)]
theorem cnt_or {P Q : Nat → Bool} : ∀ {n : Nat}, (∀ a, a < n → ¬ (P a = true ∧ Q a = true)) → cnt (fun a => P a || Q a) n = cnt P n + cnt Q n
  | 0, _ => rfl
  | n + 1, h => by
    rw [cnt, cnt, cnt, cnt_or fun a ha => h a (by omega)]
    have := h n (by omega)
    cases hp : P n <;> cases hq : Q n <;> simp_all <;> omega
theorem cnt_le {P Q : Nat → Bool} : ∀ {n : Nat}, (∀ a, a < n → P a = true → Q a = true) → cnt P n ≤ cnt Q n
  | 0, _ => Nat.le_refl _
  | n + 1, h => by
    rw [cnt, cnt]
    have h1 := cnt_le (n := n) fun a ha => h a (by omega)
    have h2 := h n (by omega)
    cases hp : P n <;> cases hq : Q n <;> simp_all <;> omega
/-- A part that counts as much is the whole. -/
theorem cnt_eq {P Q : Nat → Bool} : ∀ {n : Nat}, (∀ a, a < n → P a = true → Q a = true) → cnt P n = cnt Q n → ∀ a, a < n → Q a = true → P a = true
  | 0, _, _, a, ha, _ => by omega
  | n + 1, h, he, a, ha, hq => by
    have h1 := cnt_le (n := n) fun a ha => h a (by omega)
    have h2 := h n (by omega)
    rw [cnt, cnt] at he
    have h3 : cnt P n = cnt Q n ∧ (P n = true ↔ Q n = true) := by
      cases hp : P n <;> cases hq : Q n <;> simp_all <;> omega
    by_cases e : a = n
    · subst e; exact h3.2.2 hq
    · exact cnt_eq (fun a ha => h a (by omega)) h3.1 a (by omega) hq
theorem cnt_none {P : Nat → Bool} : ∀ {n : Nat}, (∀ a, a < n → P a = false) → cnt P n = 0
  | 0, _ => rfl
  | n + 1, h => by rw [cnt, cnt_none fun a ha => h a (by omega), h n (by omega)]; rfl
theorem cnt_interval (p e : Nat) : ∀ {n : Nat}, p ≤ e → (cnt (fun a => decide (p ≤ a ∧ a < e)) n : Int) = (min e n : Nat) - (min p n : Nat)
  | 0, h => by simp [cnt]
  | n + 1, h => by
    have ih := cnt_interval p e (n := n) h
    rw [cnt]
    by_cases h1 : p ≤ n ∧ n < e
    · simp only [h1, decide_true, if_true, and_self]; omega
    · simp only [h1, decide_false, if_false]
      simp only [Bool.false_eq_true, if_false]
      omega
end Go.Proofs.Ytfeiapkifoakoaa
