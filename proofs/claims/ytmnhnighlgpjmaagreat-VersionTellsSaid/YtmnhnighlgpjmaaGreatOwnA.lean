/-
  Rows of arcs that the law owns; append on them; what all functions answer, on whatever graph.
-/
import Derived.Test.YtmnhnighlgpjmaaGreatWaysM
import Derived.Laws.CopyOwn
import Derived.Lib.AppendZerosOnto
import Derived.Lib.AppendZeros
import Derived.Lib.SliceRun
import Derived.Lib.SlFresh
namespace Go.Proofs.YtmnhnighlgpjmaaGreat
set_option linter.unusedVariables false
set_option linter.unusedSimpArgs false
open Go.RowKit

/-- The cells of spans. -/
def sc (l : List Sp) : List Value := l.flatMap fun s => [.int .i64 s.p, .int .i64 s.n]
theorem sc_length (l : List Sp) : (sc l).length = 2 * l.length := by
  induction l with
  | nil => rfl
  | cons x l ih => unfold sc at *; rw [List.flatMap_cons, List.length_append, ih]; simp; omega
theorem sc_at : ∀ (l : List Sp) (i : Nat), i < l.length → (sc l)[i * 2]? = some (.int .i64 (gt l i).p) ∧ (sc l)[i * 2 + 1]? = some (.int .i64 (gt l i).n)
  | [], i, h => by simp at h
  | x :: l, 0, _ => ⟨rfl, rfl⟩
  | x :: l, i + 1, h => by
    have ih := sc_at l i (by simpa using h)
    have e : sc (x :: l) = .int .i64 x.p :: .int .i64 x.n :: sc l := rfl
    rw [e, show (i + 1) * 2 = i * 2 + 1 + 1 by omega]
    exact ih
theorem infoSp : (Tryz.prog.info? 53).map (fun i => (i.zero, i.size, i.bytes)) = some (some (.agg #[.int .i64 0, .int .i64 0]), 2, 16) := by kernel_rfl

theorem sc_append (a b : List Sp) : sc (a ++ b) = sc a ++ sc b := by simp [sc]
theorem sc_one : ∀ (l : List Sp), ∀ u ∈ sc l, u.oneCell' = true := fun l u hu => by
  unfold sc at hu
  obtain ⟨s, _, h⟩ := List.mem_flatMap.1 hu
  rcases List.mem_cons.1 h with rfl | h
  · rfl
  · rcases List.mem_cons.1 h with rfl | h
    · rfl
    · cases h
theorem sc_cells {w : World} {b off : Nat} {l : List Sp} (h : ∀ i, i < l.length → w.cell? ⟨b, off + i * 2, none⟩ = some (.int .i64 (gt l i).p) ∧ w.cell? ⟨b, off + i * 2 + 1, none⟩ = some (.int .i64 (gt l i).n)) :
    ∀ j u, (sc l)[j]? = some u → w.cell? ((⟨b, off, none⟩ : Addr).add j) = some u := fun j u hu => by
  rw [Addr.add_lit]
  have hj : j < 2 * l.length := by rw [← sc_length]; exact (List.getElem?_eq_some_iff.1 hu).1
  have h1 := h (j / 2) (by omega)
  have h2 := sc_at l (j / 2) (by omega)
  rcases Nat.mod_two_eq_zero_or_one j with h0 | h0
  · rw [show j / 2 * 2 = j by omega] at h1 h2
    rw [h2.1] at hu
    injection hu with hu
    rw [← hu]; exact h1.1
  · rw [show j / 2 * 2 + 1 = j by omega] at h2
    rw [show off + j / 2 * 2 + 1 = off + j by omega] at h1
    rw [h2.2] at hu
    injection hu with hu
    rw [← hu]; exact h1.2

/-- A slice value that owns its row, which reads as the spans l. -/
structure Own (w : World) (base : Nat) (v : Value) (l : List Sp) : Prop where
  row : w.ownsRow base 53 2 v l.length (sc l)
  wf : ∀ s ∈ l, s.wf
  len : l.length ≤ 1000
theorem Own.srow {w : World} {base : Nat} {v : Value} {l : List Sp} (h : Own w base v l) : SRow w w.heap.size v l := by
  have hl := h.len
  rcases h.row.2 with ⟨rfl, h0⟩ | ⟨g, cap, cur, rfl, hb, hg, h1, h2, h3, h4⟩
  · have : l = [] := List.eq_nil_of_length_eq_zero h0
    subst this
    exact srow_nil0 _ _
  · refine ⟨⟨h.wf, fun A n c h => by injection h with e1 e2 e3; subst e1; subst e2; subst e3; exact ⟨h1, h2, fun h => by cases h⟩⟩, by omega, _, _, rfl, fun h0 => ⟨g, 0, rfl, (Array.getElem?_eq_some_iff.1 hg).1, fun i hi => ?_⟩⟩
    have hc : ∀ j u, (sc l)[j]? = some u → w.cell? ⟨g, j, none⟩ = some u := fun j u hu => by
      rw [← h4, List.getElem?_take] at hu
      split at hu
      · rw [cell_of_row _ _ _ _ _ _ hg, ← Array.getElem?_toList]; exact hu
      · cases hu
    have h5 := sc_at l i hi
    rw [Nat.zero_add]
    exact ⟨hc _ _ h5.1, hc _ _ h5.2⟩
theorem Own.grow {w w' : World} {base : Nat} {v : Value} {l : List Sp} {row : Option Nat} (h : Own w base v l) (hg : w.grownBy w' row) (hne : v.ownBlock = none ∨ v.ownBlock ≠ row) : Own w' base v l := ⟨h.row.kept hg hne, h.wf, h.len⟩
theorem Own.below {w w' : World} {base : Nat} {v : Value} {l : List Sp} (h : Own w base v l) (hb : Below w.heap.size w w') : Own w' base v l := by
  refine h.grow (row := none) (grown_below hb none) ?_
  rcases hv : v.ownBlock with _ | k
  · exact .inl rfl
  · right; simp
theorem Own.base_le {w : World} {base base' : Nat} {v : Value} {l : List Sp} (h : Own w base v l) (hb : base' ≤ base) : Own w base' v l := by
  refine ⟨⟨h.row.1, ?_⟩, h.wf, h.len⟩
  rcases h.row.2 with ⟨rfl, h0⟩ | ⟨g, cap, cur, rfl, hb', hg, h1, h2, h3, h4⟩
  · exact .inl ⟨rfl, h0⟩
  · exact .inr ⟨g, cap, cur, rfl, by omega, hg, h1, h2, h3, h4⟩

theorem run_apps (w : World) (ty : TypeId) (base B : Nat) (v u : Value) (L q : List Sp) (hv : Own w base v L) (hu : SRow w B u q) (hl : L.length + q.length ≤ 900) (hb : base ≤ w.heap.size) :
    ∃ v' w', (Builtin.append_ #[35, 35] ty #[v, u]).run Tryz.prog w = .ok v' w' ∧ Own w' base v' (L ++ q) ∧ w.grownBy w' v.ownBlock ∧ ∀ g, v'.ownBlock = some g → v.ownBlock = some g ∨ g = w.heap.size := by
  obtain ⟨i0, hi, hz0, hz1, hz2⟩ := info_parts infoSp
  obtain ⟨⟨hwf, hcp⟩, hlm, A, cap, rfl, hA⟩ := hu
  obtain ⟨k1, k2, k3⟩ := hcp _ _ _ rfl
  rcases A with _ | ad
  · have hc := k3 rfl
    have h0 : q.length = 0 := by omega
    obtain rfl : q = [] := List.eq_nil_of_length_eq_zero h0
    have hu := run_underlying (P := Tryz.prog) Tryz.underlying35
    have hvs : ∃ A n cap, v = .slice A n cap ∧ n ≤ cap := by
      rcases hv.row.2 with ⟨rfl, _⟩ | ⟨g, cap, cur, rfl, _, _, h1, _⟩
      · exact ⟨none, 0, 0, rfl, Nat.le_refl _⟩
      · exact ⟨_, _, _, rfl, h1⟩
    obtain ⟨A, n, cp, rfl, hnc⟩ := hvs
    refine ⟨.slice A n cp, w, ?_, by rw [List.append_nil]; exact hv, ⟨rfl, rfl, rfl, Nat.le_refl _, fun _ _ _ => rfl⟩, fun g hg => .inl hg⟩
    cases A <;> simp [Builtin.append_, hu, Builtin.lenOf, Builtin.firstCells, sizeOf, typeInfo, hi, storeCells, hnc]
  · have hnews : ∀ j u, (sc q)[j]? = some u → w.cell? (ad.add j) = some u := by
      rcases Nat.eq_zero_or_pos q.length with h | h
      · obtain rfl : q = [] := List.eq_nil_of_length_eq_zero h
        intro j u hu; simp [sc] at hu
      · obtain ⟨b, off, h1, _, h2⟩ := hA h
        injection h1 with h1
        subst h1
        exact sc_cells h2
    obtain ⟨v', w', hr, h2, h3, _, h5⟩ := run_append_own_at (P := Tryz.prog) w base 35 ty 53 i0 (.agg #[.int .i64 0, .int .i64 0]) 2 16 Tryz.underlying35 hi hz0 hz1 hz2 rfl (by decide) v L.length (sc L) hv.row ad q.length cap (sc q) (by rw [sc_length]; omega) hnews (sc_one _) (by unfold maxLen; omega) (by omega) hb
    refine ⟨v', w', hr, ⟨?_, fun s hs => ?_, by simp; omega⟩, h3, fun g hg => ?_⟩
    · rw [sc_append, List.length_append]; exact h2
    · rcases List.mem_append.1 hs with h | h
      · exact hv.wf s h
      · exact hwf s h
    · rcases h5 with h5 | h5
      · exact .inl (by rw [← h5]; exact hg)
      · right
        rw [h5] at hg
        simpa [Value.ownBlock] using hg.symm

def partsAny (n : Int) (l : List Sp) : List (List Nat) := if rightB n l = true then partsOf (toA l) n.toNat else []
def reachAny (n : Int) (l : List Sp) (rs : List Int) : List Nat := if rightB n l = true then reachOf (toA l) n.toNat (rootsN n.toNat rs) else []
def WayIs (n : Int) (l : List Sp) (rs : List Int) (tt : Int) (p : List Nat) : Prop := (rightB n l = true ∧ WayTo (toA l) n.toNat rs tt p) ∨ (rightB n l = false ∧ p = [])
def LoopIs (n : Int) (l : List Sp) (p : List Nat) : Prop := (rightB n l = true ∧ LoopOk (toA l) n.toNat p) ∨ (rightB n l = false ∧ p = [])
def LLPost (L : List (List Nat)) (w : World) (e : Ending) (w' : World) : Prop := ∃ u, e = .returned u ∧ LRow w' w'.heap.size u (L.map zi) ∧ Below w.heap.size w w'
def NPost (L : List Nat) (w : World) (e : Ending) (w' : World) : Prop := ∃ u, e = .returned u ∧ IRow w' w'.heap.size u (zi L) ∧ Below w.heap.size w w'
def PPost (Q : List Nat → Prop) (w : World) (e : Ending) (w' : World) : Prop := ∃ u p, e = .returned u ∧ IRow w' w'.heap.size u (zi p) ∧ Q p ∧ Below w.heap.size w w'
theorem parts_any (n : Int) (v : Value) (l : List Sp) (w : World) (hn : n ≤ 900) (hl : l.length ≤ 1000) (hr : SRow w w.heap.size v l) : Calls Tryz.prog 29 #[.int .i64 n, v] w (LLPost (partsAny n l) w) := by
  cases hri : rightB n l with
  | true =>
    obtain ⟨N, rfl⟩ := right_nat hri
    refine (parts_ok N v l w hri (by omega) hl hr).mono ?_
    rintro e w' ⟨u, h1, h2, h3⟩
    refine ⟨u, h1, ?_, h3⟩
    unfold partsAny
    rw [if_pos hri, Int.toNat_natCast]
    have := partsGo_len (toA l) N N []
    exact h2.lrow (by rw [List.length_map]; unfold partsOf; omega)
  | false =>
    refine (parts_bad n v l w hri hr).mono ?_
    rintro e w' ⟨h1, h3⟩
    refine ⟨_, h1, ?_, h3⟩
    unfold partsAny
    rw [if_neg (by rw [hri]; simp)]
    exact lrow_nil _ _
theorem way_all (n tt : Int) (v rv : Value) (l : List Sp) (rs : List Int) (w : World) (hn : n ≤ 900) (hl : l.length ≤ 1000) (hr : SRow w w.heap.size v l) (hrr : IRow w w.heap.size rv rs) : Calls Tryz.prog 36 #[.int .i64 n, v, rv, .int .i64 tt] w (PPost (WayIs n l rs tt) w) := by
  cases hri : rightB n l with
  | true =>
    obtain ⟨N, rfl⟩ := right_nat hri
    refine (way_any N tt v rv l rs w hri (by omega) hl hr hrr).mono ?_
    rintro e w' ⟨u, p, h1, h2, h3, h4, h5⟩
    exact ⟨u, p, h1, h2.irow (by rw [zi_length]; omega), .inl ⟨hri, by rw [Int.toNat_natCast]; exact h3⟩, h5⟩
  | false =>
    refine (way_bad n tt v rv l w (.inl hri) hr).mono ?_
    rintro e w' ⟨h1, h3⟩
    exact ⟨_, [], h1, irow_nil _ _, .inr ⟨hri, rfl⟩, h3⟩
theorem loop_len {A : Arcs} {n : Nat} {p : List Nat} (hA : ∀ a ∈ A, a.1 < n ∧ a.2 < n) (h : LoopOk A n p) : p.length ≤ n := by
  obtain ⟨m, h1, ⟨_, rfl⟩ | ⟨h2, q, h3, h4, rfl⟩⟩ := h
  · simp
  · have := way_len hA h2 h3
    have h5 := List.length_pos_iff.2 h4
    rw [List.length_cons, List.length_dropLast]
    omega
theorem loop_all (n : Int) (v : Value) (l : List Sp) (w : World) (hn : n ≤ 900) (hl : l.length ≤ 1000) (hr : SRow w w.heap.size v l) : Calls Tryz.prog 18 #[.int .i64 n, v] w (PPost (LoopIs n l) w) := by
  cases hri : rightB n l with
  | true =>
    obtain ⟨N, rfl⟩ := right_nat hri
    refine (loop_ok N v l w hri (by omega) hl hr).mono ?_
    rintro e w' ⟨u, p, h1, h2, h3, h5⟩
    have := loop_len (right_toA hri) h3
    exact ⟨u, p, h1, h2.irow (by rw [zi_length]; omega), .inl ⟨hri, by rw [Int.toNat_natCast]; exact h3⟩, h5⟩
  | false =>
    refine (loop_bad n v l w hri hr).mono ?_
    rintro e w' ⟨h1, h3⟩
    exact ⟨_, [], h1, irow_nil _ _, .inr ⟨hri, rfl⟩, h3⟩
/-- The same arcs, the same roots. -/
structure SameG (l l' : List Sp) : Prop where
  mem : ∀ s, s ∈ l ↔ s ∈ l'
theorem SameG.right {l l' : List Sp} (h : SameG l l') (n : Int) : rightB n l = rightB n l' := by
  unfold rightB
  congr 2
  rw [Bool.eq_iff_iff, List.any_eq_true, List.any_eq_true]
  exact ⟨fun ⟨s, h1, h2⟩ => ⟨s, (h.mem s).1 h1, h2⟩, fun ⟨s, h1, h2⟩ => ⟨s, (h.mem s).2 h1, h2⟩⟩
theorem SameG.arcs {l l' : List Sp} (h : SameG l l') : ∀ a, a ∈ toA l ↔ a ∈ toA l' := fun a => by
  unfold toA
  rw [List.mem_map, List.mem_map]
  exact ⟨fun ⟨s, h1, h2⟩ => ⟨s, (h.mem s).1 h1, h2⟩, fun ⟨s, h1, h2⟩ => ⟨s, (h.mem s).2 h1, h2⟩⟩
theorem SameG.parts {l l' : List Sp} (h : SameG l l') (n : Int) : partsAny n l = partsAny n l' := by
  unfold partsAny
  rw [h.right n, partsOf_congr h.arcs]
theorem roots_same {rs rs' : List Int} (h : ∀ z, z ∈ rs ↔ z ∈ rs') (n : Nat) : ∀ r, r ∈ rootsN n rs ↔ r ∈ rootsN n rs' := fun r => by rw [mem_rootsN, mem_rootsN, h]
theorem SameG.reach {l l' : List Sp} (h : SameG l l') {rs rs' : List Int} (hr : ∀ z, z ∈ rs ↔ z ∈ rs') (n : Int) : reachAny n l rs = reachAny n l' rs' := by
  unfold reachAny
  rw [h.right n]
  congr 1
  unfold reachOf
  apply List.filter_congr
  intro v _
  rw [Bool.eq_iff_iff, List.any_eq_true, List.any_eq_true]
  have ha := h.arcs
  constructor
  · rintro ⟨r, h1, h2⟩
    exact ⟨r, (roots_same hr _ r).1 h1, (reachB_iff _ _ _).2 (((reachB_iff _ _ _).1 h2).mono fun a h => (ha a).1 h)⟩
  · rintro ⟨r, h1, h2⟩
    exact ⟨r, (roots_same hr _ r).2 h1, (reachB_iff _ _ _).2 (((reachB_iff _ _ _).1 h2).mono fun a h => (ha a).2 h)⟩
theorem SameG.way {l l' : List Sp} (h : SameG l l') {rs rs' : List Int} (hr : ∀ z, z ∈ rs ↔ z ∈ rs') {n tt : Int} {p p' : List Nat} (h1 : WayIs n l rs tt p) (h2 : WayIs n l' rs' tt p') : p = p' := by
  unfold WayIs at h1 h2
  rw [← h.right n] at h2
  rcases h1 with ⟨a1, h1⟩ | ⟨a1, rfl⟩ <;> rcases h2 with ⟨a2, h2⟩ | ⟨a2, rfl⟩
  · unfold WayTo at h1 h2
    rcases h1 with ⟨b1, h1⟩ | ⟨b1, rfl⟩ <;> rcases h2 with ⟨b2, h2⟩ | ⟨b2, rfl⟩
    · exact (h1.congr h.arcs (roots_same hr _)).unique h2
    · rw [b1] at b2; cases b2
    · rw [b1] at b2; cases b2
    · rfl
  · rw [a1] at a2; cases a2
  · rw [a1] at a2; cases a2
  · rfl
theorem SameG.loop {l l' : List Sp} (h : SameG l l') {n : Int} {p p' : List Nat} (h1 : LoopIs n l p) (h2 : LoopIs n l' p') : p = p' := by
  unfold LoopIs at h1 h2
  rw [← h.right n] at h2
  rcases h1 with ⟨a1, h1⟩ | ⟨a1, rfl⟩ <;> rcases h2 with ⟨a2, h2⟩ | ⟨a2, rfl⟩
  · exact (h1.congr h.arcs).unique h2
  · rw [a1] at a2; cases a2
  · rw [a1] at a2; cases a2
  · rfl
end Go.Proofs.YtmnhnighlgpjmaaGreat
