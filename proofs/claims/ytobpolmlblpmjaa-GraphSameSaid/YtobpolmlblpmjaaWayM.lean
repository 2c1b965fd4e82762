/-
  What is reached, and the least of the shortest ways: what a search says of them.
-/
import Derived.Test.YtobpolmlblpmjaaSrchM
import Derived.Test.YtobpolmlblpmjaaKosa
namespace Go.Proofs.Ytobpolmlblpmjaa
set_option linter.unusedVariables false
set_option linter.unusedSimpArgs false

theorem Fol.rtl {A : Arcs} {p : List Nat} {r : Nat} (h : Fol A p) (h0 : p[0]? = some r) : RT A r (lst p) := by
  cases p with
  | nil => simp at h0
  | cons a l =>
    simp at h0
    subst h0
    refine Fol.rt h _ ?_
    have := eq_snoc (p := a :: l) (by simp)
    rw [this]; simp
theorem Ways.iff {A : Arcs} {R : List Nat} {P : List (List Nat)} (h : Ways A R P) (v : Nat) : v ∈ P.map lst ↔ ∃ r ∈ R, RT A r v := by
  constructor
  · intro hv
    obtain ⟨p, hp, rfl⟩ := List.mem_map.1 hv
    obtain ⟨r, hr, h0⟩ := h.beg p hp
    exact ⟨r, hr, (h.fol p hp).rtl h0⟩
  · rintro ⟨r, hr, hrt⟩
    obtain ⟨l, h1, h2⟩ := hrt.way
    obtain ⟨p, hp, h3, _⟩ := h.all (l ++ [v]) (by simp) h1 ⟨r, hr, h2⟩
    rw [lst_snoc] at h3
    exact h3 ▸ List.mem_map_of_mem hp
theorem Ways.inj {A : Arcs} {R : List Nat} {P : List (List Nat)} (h : Ways A R P) {p q : List Nat} (hp : p ∈ P) (hq : q ∈ P) (e : lst p = lst q) : p = q := by
  obtain ⟨i, hi, rfl⟩ := List.getElem_of_mem hp
  obtain ⟨j, hj, rfl⟩ := List.getElem_of_mem hq
  have h1 := h.nd
  rw [List.nodup_iff_pairwise_ne, List.pairwise_iff_getElem] at h1
  rcases Nat.lt_trichotomy i j with h2 | h2 | h2
  · have := h1 i j (by simpa using hi) (by simpa using hj) h2
    simp at this; exact absurd e this
  · subst h2; rfl
  · have := h1 j i (by simpa using hj) (by simpa using hi) h2
    simp at this; exact absurd e.symm this
/-- What is reached from the roots, ascending. -/
def reachOf (A : Arcs) (n : Nat) (R : List Nat) : List Nat := (List.range n).filter fun v => R.any fun r => reachB A r v
theorem mem_reachOf {A : Arcs} {n : Nat} {R : List Nat} {v : Nat} : v ∈ reachOf A n R ↔ v < n ∧ ∃ r ∈ R, RT A r v := by
  unfold reachOf
  rw [List.mem_filter, List.mem_range, List.any_eq_true]
  constructor
  · rintro ⟨h1, r, h2, h3⟩; exact ⟨h1, r, h2, (reachB_iff A r v).1 h3⟩
  · rintro ⟨h1, r, h2, h3⟩; exact ⟨h1, r, h2, (reachB_iff A r v).2 h3⟩
theorem reachOf_asc (A : Arcs) (n : Nat) (R : List Nat) : (reachOf A n R).Pairwise (· < ·) := List.pairwise_lt_range.filter _
theorem Found.reach {A : Arcs} {R : List Nat} {n : Nat} {B : List Int} {P : List (List Nat)} (h : Found A R n B P) : (List.range n).filter (fun v => !(B.getD v 0 == -1)) = reachOf A n R := by
  unfold reachOf
  apply List.filter_congr
  intro v hv
  have hv2 := List.mem_range.1 hv
  rw [Bool.eq_iff_iff, List.any_eq_true, Bool.not_eq_true', beq_eq_false_iff_ne, ne_eq, h.bef.has hv2, Classical.not_not, h.ways.iff]
  constructor
  · rintro ⟨r, h1, h2⟩; exact ⟨r, h1, (reachB_iff A r v).2 h2⟩
  · rintro ⟨r, h1, h2⟩; exact ⟨r, h1, (reachB_iff A r v).1 h2⟩
/-- The least of the shortest ways from a root to a node; nothing where there is none. -/
def WayOk (A : Arcs) (R : List Nat) (to : Nat) (l : List Nat) : Prop :=
  (l = [] ∧ ∀ r ∈ R, ¬ RT A r to) ∨ (l ≠ [] ∧ Fol A l ∧ (∃ r ∈ R, l[0]? = some r) ∧ lst l = to ∧ ∀ m : List Nat, m ≠ [] → Fol A m → (∃ r ∈ R, m[0]? = some r) → lst m = to → ¬ sl m l)
theorem WayOk.unique {A : Arcs} {R : List Nat} {to : Nat} {l m : List Nat} (h : WayOk A R to l) (h2 : WayOk A R to m) : l = m := by
  rcases h with ⟨rfl, h⟩ | ⟨h1, h3, ⟨r, h4, h5⟩, h6, h7⟩ <;> rcases h2 with ⟨rfl, g⟩ | ⟨g1, g3, ⟨s, g4, g5⟩, g6, g7⟩
  · rfl
  · exact absurd (g6 ▸ g3.rtl g5) (h s g4)
  · exact absurd (h6 ▸ h3.rtl h5) (g r h4)
  · rcases sl_tri l m with e | e | e
    · exact absurd e (g7 l h1 h3 ⟨r, h4, h5⟩ h6)
    · exact e
    · exact absurd e (h7 m g1 g3 ⟨s, g4, g5⟩ g6)
theorem WayOk.congr {A A2 : Arcs} {R R2 : List Nat} {to : Nat} {l : List Nat} (h : WayOk A R to l) (hA : ∀ a, a ∈ A ↔ a ∈ A2) (hR : ∀ r, r ∈ R ↔ r ∈ R2) : WayOk A2 R2 to l := by
  have hF : ∀ m, Fol A m ↔ Fol A2 m := fun m => ⟨fun h i x y a b => (hA _).1 (h i x y a b), fun h i x y a b => (hA _).2 (h i x y a b)⟩
  have hT : ∀ r v, RT A r v ↔ RT A2 r v := fun r v => ⟨fun h => h.mono fun a ha => (hA a).1 ha, fun h => h.mono fun a ha => (hA a).2 ha⟩
  rcases h with ⟨h1, h2⟩ | ⟨h1, h2, ⟨r, h3, h4⟩, h5, h6⟩
  · exact .inl ⟨h1, fun r hr ht => h2 r ((hR r).2 hr) ((hT r to).2 ht)⟩
  · refine .inr ⟨h1, (hF l).1 h2, ⟨r, (hR r).1 h3, h4⟩, h5, fun m g1 g2 g3 g4 => ?_⟩
    obtain ⟨s, g5, g6⟩ := g3
    exact h6 m g1 ((hF m).2 g2) ⟨s, (hR s).2 g5, g6⟩ g4
theorem Found.none {A : Arcs} {R : List Nat} {n : Nat} {B : List Int} {P : List (List Nat)} (h : Found A R n B P) {to : Nat} (ht : to < n) (hb : B.getD to 0 = -1) : WayOk A R to [] := by
  refine .inl ⟨rfl, fun r hr hrt => ?_⟩
  exact (h.bef.has ht).1 hb ((h.ways.iff to).2 ⟨r, hr, hrt⟩)
theorem Found.way {A : Arcs} {R : List Nat} {n : Nat} {B : List Int} {P : List (List Nat)} (h : Found A R n B P) {p : List Nat} (hp : p ∈ P) : WayOk A R (lst p) p := by
  refine .inr ⟨h.ways.ne p hp, h.ways.fol p hp, h.ways.beg p hp, rfl, fun m h1 h2 h3 h4 => ?_⟩
  obtain ⟨q, hq, h5, h6⟩ := h.ways.all m h1 h2 h3
  have := h.ways.inj hq hp (by rw [h5, h4])
  rw [← this]; exact h6
theorem Found.at {A : Arcs} {R : List Nat} {n : Nat} {B : List Int} {P : List (List Nat)} (h : Found A R n B P) {to : Nat} (ht : to < n) (hb : B.getD to 0 ≠ -1) : ∃ p ∈ P, lst p = to := by
  have : to ∈ P.map lst := by
    apply Classical.byContradiction
    intro h1; exact hb ((h.bef.has ht).2 h1)
  obtain ⟨p, hp, e⟩ := List.mem_map.1 this
  exact ⟨p, hp, e⟩
/-- One step back along a way. -/
theorem Found.step {A : Arcs} {R : List Nat} {n : Nat} {B : List Int} {P : List (List Nat)} (h : Found A R n B P) {q : List Nat} (hq : q ∈ P) : lst q < n ∧ B.getD (lst q) 0 = (par q : Int) ∧ ((q = [lst q] ∧ par q = lst q) ∨ ∃ q2 ∈ P, q = q2 ++ [lst q] ∧ par q = lst q2 ∧ lst q2 ≠ lst q ∧ q2.length + 1 = q.length) := by
  obtain ⟨h1, h2⟩ := h.bef.par q hq
  refine ⟨h1, h2, ?_⟩
  rcases h.ways.pc q hq with h3 | ⟨q2, h3, h4⟩
  · left
    obtain ⟨x, rfl⟩ := List.length_eq_one_iff.1 h3
    exact ⟨rfl, rfl⟩
  · right
    have hne := h.ways.ne q2 h3
    have hl : q2.length + 1 = q.length := by rw [h4]; simp
    refine ⟨q2, h3, h4, by rw [h4, par_snoc q2 _ hne], fun e => ?_, hl⟩
    have := h.ways.inj h3 hq e
    rw [this] at hl; omega
end Go.Proofs.Ytobpolmlblpmjaa
