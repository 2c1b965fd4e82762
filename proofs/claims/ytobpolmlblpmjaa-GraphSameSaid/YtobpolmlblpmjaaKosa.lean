/-
  Graphs: the parts, by an order of leaving.
-/
import Derived.Test.YtobpolmlblpmjaaBfs
namespace Go.Proofs.Ytobpolmlblpmjaa
set_option linter.unusedVariables false
set_option linter.unusedSimpArgs false

/-- Two nodes are in the same part. -/
def eqv (A : Arcs) (v w : Nat) : Prop := RT A v w ∧ RT A w v
theorem eqv.refl (A : Arcs) (v : Nat) : eqv A v v := ⟨.refl, .refl⟩
theorem eqv.symm {A : Arcs} {v w : Nat} (h : eqv A v w) : eqv A w v := ⟨h.2, h.1⟩
theorem eqv.trans {A : Arcs} {u v w : Nat} (h : eqv A u v) (h2 : eqv A v w) : eqv A u w := ⟨h.1.trans h2.1, h2.2.trans h.2⟩
def eqvB (A : Arcs) (v w : Nat) : Bool := reachB A v w && reachB A w v
theorem eqvB_iff (A : Arcs) (v w : Nat) : eqvB A v w = true ↔ eqv A v w := by
  unfold eqvB eqv
  rw [Bool.and_eq_true, reachB_iff, reachB_iff]
/-- The nodes of a node's part, ascending. -/
def partOf (A : Arcs) (n v : Nat) : List Nat := (List.range n).filter fun w => eqvB A v w
theorem mem_partOf {A : Arcs} {n v w : Nat} : w ∈ partOf A n v ↔ w < n ∧ eqv A v w := by
  unfold partOf
  rw [List.mem_filter, List.mem_range, eqvB_iff]
theorem partOf_asc (A : Arcs) (n v : Nat) : (partOf A n v).Pairwise (· < ·) := List.pairwise_lt_range.filter _
theorem partOf_congr {A : Arcs} {v w : Nat} (n : Nat) (h : eqv A v w) : partOf A n v = partOf A n w := by
  unfold partOf
  apply List.filter_congr
  intro x _
  rw [Bool.eq_iff_iff, eqvB_iff, eqvB_iff]
  exact ⟨fun h2 => h.symm.trans h2, fun h2 => h.trans h2⟩
/-- The least node of a node's part. -/
def hd (A : Arcs) (n v : Nat) : Nat := (partOf A n v).headD v
theorem asc_head {l : List Nat} (h : l.Pairwise (· < ·)) {x d : Nat} (hx : x ∈ l) : l.headD d ≤ x ∧ l.headD d ∈ l := by
  cases l with
  | nil => simp at hx
  | cons a l =>
    rcases List.mem_cons.1 hx with rfl | h2
    · exact ⟨Nat.le_refl _, by simp⟩
    · exact ⟨Nat.le_of_lt ((List.pairwise_cons.1 h).1 x h2), by simp⟩
theorem hd_mem {A : Arcs} {n v : Nat} (hv : v < n) : hd A n v < n ∧ eqv A v (hd A n v) :=
  mem_partOf.1 (asc_head (partOf_asc A n v) (mem_partOf.2 ⟨hv, eqv.refl A v⟩)).2
theorem hd_le {A : Arcs} {n v w : Nat} (hw : w < n) (h : eqv A v w) : hd A n v ≤ w :=
  (asc_head (partOf_asc A n v) (mem_partOf.2 ⟨hw, h⟩)).1
theorem hd_congr {A : Arcs} {n v w : Nat} (hv : v < n) (h : eqv A v w) : hd A n v = hd A n w := by
  have e := partOf_congr n h
  have h1 := (asc_head (d := w) (partOf_asc A n v) (mem_partOf.2 ⟨hv, eqv.refl A v⟩))
  have h2 : v ∈ partOf A n v := mem_partOf.2 ⟨hv, eqv.refl A v⟩
  unfold hd
  rw [← e]
  cases hp : partOf A n v with
  | nil => rw [hp] at h2; simp at h2
  | cons a l => rfl
theorem hd_iff {A : Arcs} {n v w : Nat} (hv : v < n) (hw : w < n) : hd A n v = hd A n w ↔ eqv A v w := by
  refine ⟨fun h => ?_, hd_congr hv⟩
  have h1 := (hd_mem (A := A) hv).2
  have h2 := (hd_mem (A := A) hw).2
  rw [h] at h1
  exact h1.trans h2.symm
theorem hd_idem {A : Arcs} {n v : Nat} (hv : v < n) : hd A n (hd A n v) = hd A n v := (hd_congr hv (hd_mem hv).2).symm

/-- What an order of leaving keeps: for each beginning, an arc from it leads into it or to a node that reaches its last node. -/
def Leave (A : Arcs) (L : List Nat) : Prop := ∀ L1 b L2, L = L1 ++ b :: L2 → ∀ u w, u ∈ L1 ++ [b] → (u, w) ∈ A → w ∈ L1 ++ [b] ∨ RT A w b
theorem Leave.nil (A : Arcs) : Leave A [] := by
  intro L1 b L2 h; simp at h
theorem Leave.snoc {A : Arcs} {L : List Nat} {v : Nat} (h : Leave A L) (hv : ∀ u w, u ∈ L ++ [v] → (u, w) ∈ A → w ∈ L ++ [v] ∨ RT A w v) : Leave A (L ++ [v]) := by
  intro L1 b L2 e
  rcases List.eq_nil_or_concat L2 with h2 | ⟨L3, x, h2⟩
  · subst h2
    have h3 := List.append_inj' e (by simp)
    obtain ⟨h4, h5⟩ := h3
    injection h5 with h5
    subst h4; subst h5
    exact hv
  · rw [List.concat_eq_append] at h2
    subst h2
    rw [← List.cons_append, ← List.append_assoc] at e
    have h3 := (List.append_inj' e (by simp)).1
    exact h L1 b L3 h3
/-- A way whose nodes all left no later than its end: the end reaches the beginning. -/
theorem Leave.back {A : Arcs} {L : List Nat} (h : Leave A L) : ∀ (k : Nat) (l : List Nat) (u v : Nat) (L1 L2 : List Nat), l.length ≤ k → L = L1 ++ v :: L2 → L.Nodup → Fol A (u :: l) → lst (u :: l) = v → (∀ x ∈ u :: l, x ∈ L1 ++ [v]) → RT A v u := by
  intro k
  induction k with
  | zero =>
    intro l u v L1 L2 hk e nd hf hl hin
    have : l = [] := List.length_eq_zero_iff.1 (by omega)
    subst this
    rw [← hl]; exact .refl
  | succ k ih =>
    intro l u v L1 L2 hk e nd hf hl hin
    by_cases huv : u = v
    · rw [huv]; exact .refl
    · have hu : u ∈ L1 := by
        have := hin u (by simp)
        simp [huv] at this; exact this
      obtain ⟨M1, M2, rfl⟩ := List.append_of_mem hu
      have e2 : L = M1 ++ u :: (M2 ++ v :: L2) := by rw [e]; simp
      have hvn : v ∉ M1 ++ [u] := by
        intro hm
        rw [e] at nd
        have := (List.nodup_append.1 nd).2.2 v (by simp at hm ⊢; rcases hm with hm | hm; exact .inl hm; exact .inr (.inl hm)) v (by simp)
        exact this rfl
      -- the first node of the way that left later than u
      suffices H : ∀ (m : Nat) (r : List Nat) (x : Nat), r.length ≤ m → r.length ≤ l.length → Fol A (x :: r) → lst (x :: r) = v → (∀ y ∈ x :: r, y ∈ M1 ++ u :: M2 ++ [v]) → x ∈ M1 ++ [u] → RT A v u from
        H l.length l u (Nat.le_refl _) (Nat.le_refl _) hf hl (by simpa using hin) (by simp)
      intro m
      induction m with
      | zero =>
        intro r x hr _ _ hl2 _ hx
        have : r = [] := List.length_eq_zero_iff.1 (by omega)
        subst this
        exact absurd (hl2 ▸ hx) hvn
      | succ m ih2 =>
        intro r x hr hr2 hf2 hl2 hin2 hx
        cases r with
        | nil => exact absurd (hl2 ▸ hx) hvn
        | cons y r =>
          have ha : (x, y) ∈ A := hf2 0 x y (by simp) (by simp)
          have hl3 : lst (y :: r) = v := by rw [← hl2]; unfold lst; simp
          have hf3 : Fol A (y :: r) := Fol.post (q := [x]) hf2
          have hin3 : ∀ z ∈ y :: r, z ∈ M1 ++ u :: M2 ++ [v] := fun z hz => hin2 z (by simp at hz ⊢; exact .inr hz)
          by_cases hy : y ∈ M1 ++ [u]
          · exact ih2 r y (by simp at hr; omega) (by simp at hr2; omega) hf3 hl3 hin3 hy
          · have h4 := (h M1 u _ e2 x y hx ha).resolve_left hy
            exact (ih r y v (M1 ++ u :: M2) L2 (by simp at hr2; omega) e nd hf3 hl3 hin3).trans h4
/-- What is gathered backwards from the last node without a head is its part. -/
theorem Leave.part {A : Arcs} {n : Nat} {L L1 L2 : List Nat} {v : Nat} (hA : ∀ a ∈ A, a.1 < n ∧ a.2 < n) (h : Leave A L) (nd : L.Nodup) (all : ∀ x, x < n → x ∈ L) (e : L = L1 ++ v :: L2) {H : Nat → Prop} (hv : v < n)
    (h2 : ∀ x ∈ L2, H x) (hs : ∀ x y, eqv A x y → H x → H y) (hv2 : ¬ H v) (w : Nat) (hw : w < n) :
    (∃ l, Fol A (l ++ [v]) ∧ (l ++ [v])[0]? = some w ∧ ∀ x ∈ l ++ [v], ¬ H x) ↔ eqv A v w := by
  constructor
  · rintro ⟨l, hf, h0, hH⟩
    have hin : ∀ x ∈ l ++ [v], x ∈ L1 ++ [v] := fun x hx => by
      have h3 := hH x hx
      have h4 : x ∈ L := all x (by
        rcases List.mem_append.1 hx with h5 | h5
        · obtain ⟨i, hi, h6⟩ := List.getElem_of_mem h5
          have h7 : (l ++ [v])[i]? = some x := by rw [List.getElem?_append_left hi, List.getElem?_eq_getElem hi, h6]
          have hi2 : i + 1 < (l ++ [v]).length := by simp; omega
          exact (hA _ (hf i x _ h7 (List.getElem?_eq_getElem hi2))).1
        · rw [List.mem_singleton.1 h5]; exact hv)
      rw [e] at h4
      rcases List.mem_append.1 h4 with h5 | h5
      · exact List.mem_append_left _ h5
      · rcases List.mem_cons.1 h5 with h6 | h6
        · simp [h6]
        · exact absurd (h2 x h6) h3
    cases hl : l ++ [v] with
    | nil => simp at hl
    | cons u r =>
      rw [hl] at h0 hf hin
      simp at h0
      subst h0
      have hl2 : lst (u :: r) = v := by rw [← hl]; simp
      refine ⟨h.back r.length r u v L1 L2 (Nat.le_refl _) e nd hf hl2 hin, ?_⟩
      exact Fol.rt hf v (by rw [← hl2]; have := eq_snoc (p := u :: r) (by simp); rw [this]; simp)
  · intro h3
    obtain ⟨l, hf, h0⟩ := h3.2.way
    refine ⟨l, hf, h0, fun x hx hx2 => hv2 (hs x v ?_ hx2)⟩
    obtain ⟨s, t, hst⟩ := List.append_of_mem hx
    have f1 : Fol A (x :: t) := Fol.post (q := s) (hst ▸ hf)
    have r1 : RT A x v := Fol.rt f1 v (by
      have : lst (x :: t) = v := by
        have h9 : lst (s ++ x :: t) = v := by rw [← hst]; simp
        unfold lst at h9 ⊢
        rw [List.getLastD_eq_getLast?] at h9 ⊢
        rw [List.getLast?_append] at h9
        rw [List.getLast?_eq_some_getLast (l := x :: t) (by simp)] at h9 ⊢
        simpa using h9
      rw [← this]
      have := eq_snoc (p := x :: t) (by simp)
      rw [this]; simp)
    have r2 : RT A w x := by
      cases hl : l ++ [v] with
      | nil => simp at hl
      | cons u r =>
        rw [hl] at h0 hf hx
        simp at h0
        subst h0
        exact Fol.rt hf x hx
    exact ⟨r1, h3.1.trans r2⟩
end Go.Proofs.Ytobpolmlblpmjaa
