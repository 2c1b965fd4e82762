/-
  Layer 6: the laws' arguments, opened: a slice of ints.
-/
import Derived.Test.YtlphblnnloigiaaDm
import Derived.OpenShut
import Derived.SliceStrings
import Derived.Lib.SmallJoins
import Derived.Deep.Slices
import Derived.Deep.SlicePairs
import Derived.Deep.Fields
import Derived.ChangeSame
import Derived.Carry
namespace Go.Proofs.Ytlphblnnloigiaa
set_option linter.unusedVariables false
set_option linter.unusedSimpArgs false
open Go.ChangeShapes Go.WideShapes Go.RowKit Go.Joins Go.Deep

theorem laidOut : laidOutB Try.prog = true := by kernel_rfl

section
variable {H : Type} {enc' : TypeId × Value → H} {W : World}

theorem plain_at {a : Addr} {x : Value} (h : W.cell? (a.add 0) = some x) : ∃ b off, a = ⟨b, off, none⟩ ∧ b < W.heap.size := by
  obtain ⟨b, off, spot⟩ := a
  have hs : spot = none := by simpa [Addr.add] using World.cell?_spot h
  subst hs
  exact ⟨b, off, rfl, World.block_lt_of_cell? W _ h⟩
theorem int_wf {z : Int} (h : (Lit.int .i64 z).wf = true) : -9223372036854775808 ≤ z ∧ z ≤ 9223372036854775807 := by
  simpa [Lit.wf, IntKind.min, IntKind.max, IntKind.bits, IntKind.signed] using h
theorem cells3 : Try.prog.cellsOf 3 = 1 := by kernel_rfl
set_option maxRecDepth 100000 in
theorem ints_of {fuel : Nat} {cs : List Value} {x : DataW H × List MemPlace} (h : DataW.trod enc' Try.prog W 0 (fun _ => true) true fuel 23 cs = some x) :
    ∃ v, cs = [v] ∧ ∃ l : List Int, IRow W W.heap.size v l ∧ ∀ z ∈ l, -9223372036854775808 ≤ z ∧ z ≤ 9223372036854775807 := by
  rcases open_ints Try.underlying23 Try.underlying3 cells3 h with ⟨hcs, _⟩ | ⟨a, len, cap, zs, hcs, _, hl, hm, hz, _, hcell, hwf⟩
  · exact ⟨_, hcs, [], irow_nil W W.heap.size, by simp⟩
  · have hzl : len ≤ zs.length := by rw [hz]; simpa using hl
    refine ⟨_, hcs, zs.take len, ⟨some a, cap, by rw [List.length_take, Nat.min_eq_left hzl], by rw [List.length_take]; omega, hm, (fun h => by cases h), fun h0 => ?_⟩, fun z hz' => int_wf (hwf z (List.mem_of_mem_take hz'))⟩
    have h1 : 0 < zs.length := by rw [List.length_take] at h0; omega
    obtain ⟨b, off, rfl, hb⟩ := plain_at (hcell 0 h1)
    refine ⟨b, off, rfl, hb, fun k hk => ?_⟩
    have hk2 : k < len ∧ k < zs.length := by rw [List.length_take] at hk; omega
    rw [← Go.WideShapes.add_plain, hcell k hk2.2]
    simp [List.getElem_take, List.getD_eq_getElem?_getD, hk2.2]
set_option maxRecDepth 100000 in
theorem open_nums {v : Value} {d : DataW H} {p : List MemPlace} {b0 : Nat} {r : Reach} (hv : Value.okWide Try.prog W r b0 23 v) (h : DataW.Trod enc' Try.prog W 0 (fun _ => true) true 23 v d p) :
    ∃ l : List Int, IRow W W.heap.size v l ∧ ∀ z ∈ l, -9223372036854775808 ≤ z ∧ z ≤ 9223372036854775807 := by
  obtain ⟨A, len, cap, rfl⟩ := okWide_slice Try.underlying23 hv
  obtain ⟨fuel, hf⟩ := h
  obtain ⟨v, hcs, l, h1, h2⟩ := ints_of hf
  have he : (Value.slice A len cap) = v := by simpa [Value.cells] using hcs
  rw [he]; exact ⟨l, h1, h2⟩
end
end Go.Proofs.Ytlphblnnloigiaa
