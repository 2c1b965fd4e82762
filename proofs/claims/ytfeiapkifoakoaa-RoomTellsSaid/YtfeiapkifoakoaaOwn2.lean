/-
  Rows of spans that the call owns (two cells an element); copy, append, clear on them; slices.Clone.
-/
import Derived.Test.YtfeiapkifoakoaaRoom
import Derived.Laws.CopyOwn
import Derived.Lib.AppendZerosOnto
import Derived.Lib.AppendZeros
import Derived.Lib.SliceRun
namespace Go.Proofs.Ytfeiapkifoakoaa
set_option linter.unusedVariables false
set_option linter.unusedSimpArgs false
open Go.RowKit

theorem infoSp : (Try.prog.info? 24).map (fun i => (i.zero, i.size, i.bytes)) = some (some (.agg #[.int .i64 0, .int .i64 0]), 2, 16) := by kernel_rfl

theorem sc_append (a b : List Sp) : sc (a ++ b) = sc a ++ sc b := by simp [sc]
theorem sc_take : ∀ (l : List Sp) (k : Nat), (sc l).take (k * 2) = sc (l.take k)
  | [], k => by simp [sc]
  | x :: l, 0 => by simp [sc]
  | x :: l, k + 1 => by
    have e : sc (x :: l) = .int .i64 x.p :: .int .i64 x.n :: sc l := rfl
    rw [e, show (k + 1) * 2 = k * 2 + 1 + 1 by omega, List.take_succ_cons, List.take_succ_cons, sc_take l k]
    rfl
theorem sc_drop : ∀ (l : List Sp) (k : Nat), (sc l).drop (k * 2) = sc (l.drop k)
  | [], k => by simp [sc]
  | x :: l, 0 => by simp [sc]
  | x :: l, k + 1 => by
    have e : sc (x :: l) = .int .i64 x.p :: .int .i64 x.n :: sc l := rfl
    rw [e, show (k + 1) * 2 = k * 2 + 1 + 1 by omega, List.drop_succ_cons, List.drop_succ_cons, sc_drop l k]
    rfl
theorem sc_one : ∀ (l : List Sp), ∀ u ∈ sc l, u.oneCell' = true := fun l u hu => by
  unfold sc at hu
  obtain ⟨s, _, h⟩ := List.mem_flatMap.1 hu
  rcases List.mem_cons.1 h with rfl | h
  · rfl
  · rcases List.mem_cons.1 h with rfl | h
    · rfl
    · cases h
theorem sc_cells {w : World} {b off : Nat} {l : List Sp} (h : ∀ i, i < l.length → w.cell? ⟨b, off + i * 2, none⟩ = some (.int .i64 (gt l i).p) ∧ w.cell? ⟨b, off + i * 2 + 1, none⟩ = some (.int .i64 (gt l i).n)) :
    ∀ j u, (sc l)[j]? = some u → w.cell? ((⟨b, off, none⟩ : Addr).add j) = some u := fun j u hu => by
  rw [Addr.add_lit]
  have hj : j < 2 * l.length := by rw [← sc_length]; exact (List.getElem?_eq_some_iff.1 hu).1
  have h1 := h (j / 2) (by omega)
  have h2 := sc_at l (j / 2) (by omega)
  rcases Nat.mod_two_eq_zero_or_one j with h0 | h0
  · rw [show j / 2 * 2 = j by omega] at h1 h2
    rw [h2.1] at hu
    injection hu with hu
    rw [← hu]; exact h1.1
  · rw [show j / 2 * 2 + 1 = j by omega] at h2
    rw [show off + j / 2 * 2 + 1 = off + j by omega] at h1
    rw [h2.2] at hu
    injection hu with hu
    rw [← hu]; exact h1.2

/-- A slice value that owns its row, which reads as the spans l. -/
structure Own (w : World) (base : Nat) (v : Value) (l : List Sp) : Prop where
  row : w.ownsRow base 24 2 v l.length (sc l)
  wf : ∀ s ∈ l, s.wf
  len : l.length ≤ 1000
theorem Own.srow {w : World} {base : Nat} {v : Value} {l : List Sp} (h : Own w base v l) : SRow w w.heap.size v l := by
  have hl := h.len
  rcases h.row.2 with ⟨rfl, h0⟩ | ⟨g, cap, cur, rfl, hb, hg, h1, h2, h3, h4⟩
  · have : l = [] := List.eq_nil_of_length_eq_zero h0
    subst this
    exact srow_nil0 _ _
  · refine ⟨⟨h.wf, fun A n c h => by injection h with e1 e2 e3; subst e1; subst e2; subst e3; exact ⟨h1, h2, fun h => by cases h⟩⟩, by omega, _, _, rfl, fun h0 => ⟨g, 0, rfl, (Array.getElem?_eq_some_iff.1 hg).1, fun i hi => ?_⟩⟩
    have hc : ∀ j u, (sc l)[j]? = some u → w.cell? ⟨g, j, none⟩ = some u := fun j u hu => by
      rw [← h4, List.getElem?_take] at hu
      split at hu
      · rw [cell_of_row _ _ _ _ _ _ hg, ← Array.getElem?_toList]; exact hu
      · cases hu
    have h5 := sc_at l i hi
    rw [Nat.zero_add]
    exact ⟨hc _ _ h5.1, hc _ _ h5.2⟩
theorem Own.grow {w w' : World} {base : Nat} {v : Value} {l : List Sp} {row : Option Nat} (h : Own w base v l) (hg : w.grownBy w' row) (hne : v.ownBlock = none ∨ v.ownBlock ≠ row) : Own w' base v l := ⟨h.row.kept hg hne, h.wf, h.len⟩
theorem Own.below {w w' : World} {base : Nat} {v : Value} {l : List Sp} (h : Own w base v l) (hb : Below w.heap.size w w') : Own w' base v l := by
  refine h.grow (row := none) (grown_below hb none) ?_
  rcases hv : v.ownBlock with _ | k
  · exact .inl rfl
  · right; simp
theorem Own.base_le {w : World} {base base' : Nat} {v : Value} {l : List Sp} (h : Own w base v l) (hb : base' ≤ base) : Own w base' v l := by
  refine ⟨⟨h.row.1, ?_⟩, h.wf, h.len⟩
  rcases h.row.2 with ⟨rfl, h0⟩ | ⟨g, cap, cur, rfl, hb', hg, h1, h2, h3, h4⟩
  · exact .inl ⟨rfl, h0⟩
  · exact .inr ⟨g, cap, cur, rfl, by omega, hg, h1, h2, h3, h4⟩

/-- A slice that was read as spans, a copy of which the call owns. -/
def CloneTo (w : World) (l : List Sp) (e : Ending) (w' : World) : Prop := ∃ u, e = .returned u ∧ Own w' w.heap.size u l ∧ Below w.heap.size w w'

set_option maxRecDepth 100000 in
set_option maxHeartbeats 1000000 in
theorem cloneP (v : Value) (l : List Sp) (w : World) (hr : SRow w w.heap.size v l) (hlen : l.length ≤ 1000) :
    Calls Try.prog 22 #[v] w (CloneTo w l) := by
  obtain ⟨⟨hwf, hnil⟩, hl0, A, cap, rfl, hA⟩ := hr
  have HWF := Lib.hid hwf; clear hwf
  have heq := fun (A : Option Addr) (n c n1 c1 : Nat) (w : World) => Lib.run_eql_slice_nil (P := Try.prog) w 22 24 A n c n1 c1 Try.underlying22
  rcases A with _ | ⟨b, off, sp⟩
  · have h0 : l.length = 0 := by
      rcases Nat.eq_zero_or_pos l.length with h | h
      · exact h
      · obtain ⟨b, off, h, _⟩ := hA h; cases h
    have hc := (hnil _ _ _ rfl).2.2 rfl
    obtain rfl : l = [] := List.eq_nil_of_length_eq_zero h0
    subst hc
    clear hnil hA h0 hl0 hlen
    go_enter Try.func22, Try.ntmps22
    go_wp2_with fail
    go_ret
    exact ⟨_, rfl, ⟨World.ownsRow_nil _ _ _ _, HWF.out, by simp⟩, Below.refl _ _⟩
  · obtain ⟨i0, hi, hz0, hz1, hz2⟩ := info_parts infoSp
    have hcl : ∀ j u, (sc l)[j]? = some u → w.cell? ((⟨b, off, sp⟩ : Addr).add j) = some u := by
      rcases Nat.eq_zero_or_pos l.length with h | h
      · obtain rfl : l = [] := List.eq_nil_of_length_eq_zero h
        intro j u hu; simp [sc] at hu
      · obtain ⟨b', off', h1, h2, h3⟩ := hA h
        injection h1 with h1
        rw [h1]
        exact sc_cells h3
    have HCL : Hid (∀ j u, (sc l)[j]? = some u → (w.alloc (.cells #[] 24)).cell? ((⟨b, off, sp⟩ : Addr).add j) = some u) := fun j u hu => keep_below (below_new _ _) (hcl j u hu)
    have hown : (w.alloc (.cells #[] 24)).ownsRow w.heap.size 24 2 (.slice (some ⟨w.heap.size, 0, none⟩) 0 0) 0 [] := World.ownsRow_made w #[] 0 (Nat.le_refl _) (by decide) rfl
    have HOWN := Lib.hid hown
    clear hcl hA hnil hown
    go_enter Try.func22, Try.ntmps22
    go_wp2_with (at_builtin; refine wpList_append_own _ rfl _ _ 22 rfl w.heap.size 24 i0 (.agg #[.int .i64 0, .int .i64 0]) 2 16 Try.underlying22 hi hz0 hz1 hz2 rfl (by decide) _ 0 [] rfl HOWN.out ⟨b, off, sp⟩ l.length cap (sc l) rfl ?c1 HCL.out (sc_one l) ?c3 ?c4 ?c5 ?_)
    case c1 => rw [sc_length]; omega
    case c3 => unfold maxLen; omega
    case c4 => omega
    case c5 => simp
    intro v' w1 h1 h2 _
    go_wp2_with fail
    go_ret
    refine ⟨_, rfl, ⟨?_, HWF.out, hlen⟩, ?_⟩
    · simpa using h1
    · exact (below_new w _).trans (Below.of_grown h2 (by simp) (Nat.le_refl _))
end Go.Proofs.Ytfeiapkifoakoaa
