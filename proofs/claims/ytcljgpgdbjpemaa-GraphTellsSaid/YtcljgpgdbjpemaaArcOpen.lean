/-
  The laws' arguments, opened: a slice of arcs, a slice of ints.
-/
import Derived.Test.YtcljgpgdbjpemaaSmall
import Derived.OpenShut
import Derived.SliceStrings
import Derived.Lib.SmallJoins
import Derived.Deep.Slices
import Derived.Deep.SlicePairs
import Derived.Deep.Fields
import Derived.ChangeSame
import Derived.Carry
namespace Go.Proofs.Ytcljgpgdbjpemaa
set_option linter.unusedVariables false
set_option linter.unusedSimpArgs false
open Go.ChangeShapes Go.WideShapes Go.RowKit Go.Joins Go.Deep

theorem laidOut : laidOutB Try.prog = true := by kernel_rfl

section
variable {H : Type} {enc' : TypeId × Value → H} {W : World}

theorem plain_at {a : Addr} {x : Value} (h : W.cell? (a.add 0) = some x) : ∃ b off, a = ⟨b, off, none⟩ ∧ b < W.heap.size := by
  obtain ⟨b, off, spot⟩ := a
  have hs : spot = none := by simpa [Addr.add] using World.cell?_spot h
  subst hs
  exact ⟨b, off, rfl, World.block_lt_of_cell? W _ h⟩
theorem int_wf {z : Int} (h : (Lit.int .i64 z).wf = true) : -9223372036854775808 ≤ z ∧ z ≤ 9223372036854775807 := by
  simpa [Lit.wf, IntKind.min, IntKind.max, IntKind.bits, IntKind.signed] using h

set_option maxRecDepth 100000 in
theorem open_arcs {v : Value} {d : DataW H} {p : List MemPlace} {b0 : Nat} {r : Reach} (hv : Value.okWide Try.prog W r b0 22 v) (h : DataW.Trod enc' Try.prog W 0 (fun _ => true) true 22 v d p) :
    ∃ A n cap, v = .slice A n cap ∧ (n ≤ 1000000 → ∃ l : List Sp, l.length = n ∧ SRow W W.heap.size v l) := by
  obtain ⟨A, len, cap, rfl⟩ := okWide_slice Try.underlying22 hv
  obtain ⟨fuel, hf⟩ := h
  refine ⟨A, len, cap, rfl, fun hn => ?_⟩
  rcases open_slice_pairs Try.underlying22 Try.underlying47 (by kernel_rfl) rfl rfl (by kernel_rfl) (by kernel_rfl) hf with ⟨hcs, _⟩ | ⟨a, len', cap', m, n, V0, V1, D0, D1, P0, P1, hcs, _, hl, hm, hmm, _, hall⟩
  · have : (Value.slice A len cap) = .slice none 0 0 := by simpa [Value.cells] using hcs
    rw [this]
    injection this with _ h2 _
    subst h2
    exact ⟨[], rfl, srow_nil0 W W.heap.size⟩
  · have he : (Value.slice A len cap) = .slice (some a) len' cap' := by simpa [Value.cells] using hcs
    injection he with e1 e2 e3
    subst e1; subst e2; subst e3
    have hlm : len ≤ m := by rw [hmm]; simpa using hl
    have each : ∀ i, i < m → ∃ s : Sp, V0 i = .int .i64 s.p ∧ V1 i = .int .i64 s.n ∧ s.wf := fun i hi => by
      obtain ⟨_, _, h3, h4⟩ := hall i hi
      obtain ⟨z, hz, _, hw⟩ := DataW.trod_int Try.underlying3 h3
      obtain ⟨z2, hz2, _, hw2⟩ := DataW.trod_int Try.underlying3 h4
      have g1 := int_wf hw
      have g2 := int_wf hw2
      have hz : V0 i = .int .i64 z := by simpa using hz
      have hz2 : V1 i = .int .i64 z2 := by simpa using hz2
      exact ⟨⟨z, z2⟩, hz, hz2, g1.1, g1.2, g2.1, g2.2⟩
    obtain ⟨f, hf2⟩ := choose_lt each
    have hg : ∀ i, i < len → gt ((List.range len).map f) i = f i := fun i hi => by simp [gt, List.getD_eq_getElem?_getD, hi]
    refine ⟨(List.range len).map f, by simp, ⟨fun s hs => ?_, fun A n c h => by injection h with h1 h2 h3; subst h1; subst h2; subst h3; exact ⟨hl, hm, fun h => by cases h⟩⟩, by simpa using hn, some a, cap, by simp, fun h0 => ?_⟩
    · obtain ⟨i, hi, rfl⟩ := List.mem_map.1 hs
      exact (hf2 i (Nat.lt_of_lt_of_le (by simpa using hi) hlm)).2.2
    · have hlen : 0 < len := by simpa using h0
      obtain ⟨b, off, rfl, hb⟩ := plain_at (by have := (hall 0 (by omega)).1; simpa using this)
      refine ⟨b, off, rfl, hb, fun i hi => ?_⟩
      have hil : i < len := by simpa using hi
      obtain ⟨h1, h2, _, _⟩ := hall i (by omega)
      obtain ⟨k1, k2, _⟩ := hf2 i (by omega)
      rw [Go.WideShapes.add_plain] at h1 h2
      rw [hg i hil, ← k1, ← k2]
      exact ⟨h1, by rw [Nat.add_assoc]; exact h2⟩

theorem cells3 : Try.prog.cellsOf 3 = 1 := by kernel_rfl
set_option maxRecDepth 100000 in
theorem open_nums {v : Value} {d : DataW H} {p : List MemPlace} {b0 : Nat} {r : Reach} (hv : Value.okWide Try.prog W r b0 23 v) (h : DataW.Trod enc' Try.prog W 0 (fun _ => true) true 23 v d p) :
    ∃ A n cap, v = .slice A n cap ∧ (n ≤ 1000000 → ∃ l : List Int, l.length = n ∧ IRow W W.heap.size v l ∧ ∀ z ∈ l, -9223372036854775808 ≤ z ∧ z ≤ 9223372036854775807) := by
  obtain ⟨A, len, cap, rfl⟩ := okWide_slice Try.underlying23 hv
  obtain ⟨fuel, hf⟩ := h
  refine ⟨A, len, cap, rfl, fun hn => ?_⟩
  rcases open_ints Try.underlying23 Try.underlying3 cells3 hf with ⟨hcs, _⟩ | ⟨a, len', cap', zs, hcs, _, hl, hm, hz, _, hcell, hwf⟩
  · have : (Value.slice A len cap) = .slice none 0 0 := by simpa [Value.cells] using hcs
    rw [this]
    injection this with _ h2 _
    subst h2
    exact ⟨[], rfl, irow_nil W W.heap.size, by simp⟩
  · have he : (Value.slice A len cap) = .slice (some a) len' cap' := by simpa [Value.cells] using hcs
    injection he with e1 e2 e3
    subst e1; subst e2; subst e3
    have hzl : len ≤ zs.length := by rw [hz]; simpa using hl
    refine ⟨zs.take len, by rw [List.length_take]; omega, ⟨by rw [List.length_take]; omega, some a, cap, by rw [List.length_take, Nat.min_eq_left hzl], by rw [List.length_take]; omega, hm, (fun h => by cases h), fun h0 => ?_⟩, fun z hz' => int_wf (hwf z (List.mem_of_mem_take hz'))⟩
    have h1 : 0 < zs.length := by rw [List.length_take] at h0; omega
    obtain ⟨b, off, rfl, hb⟩ := plain_at (hcell 0 h1)
    refine ⟨b, off, rfl, hb, fun k hk => ?_⟩
    have hk2 : k < len ∧ k < zs.length := by rw [List.length_take] at hk; omega
    rw [← Go.WideShapes.add_plain, hcell k hk2.2]
    simp [List.getElem_take, List.getD_eq_getElem?_getD, hk2.2]
end
end Go.Proofs.Ytcljgpgdbjpemaa
