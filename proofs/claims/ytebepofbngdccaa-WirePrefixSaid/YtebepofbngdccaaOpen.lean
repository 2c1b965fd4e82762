/-
  The law's arguments, opened: slices of ints and of strings, the struct Value, slices of Value.
-/
import Derived.Test.YtebepofbngdccaaSame
import Derived.OpenShut
import Derived.SliceStrings
import Derived.Lib.SmallJoins
import Derived.Deep.Slices
import Derived.Deep.Fields
import Derived.ChangeSame
import Derived.Carry
namespace Go.Proofs.Ytebepofbngdccaa
set_option linter.unusedVariables false
set_option linter.unusedSimpArgs false
open Go.ChangeShapes Go.WideShapes Go.RowKit Go.Joins Go.Deep

theorem laidOut : laidOutB Try.prog = true := by kernel_rfl
theorem cells3 : Try.prog.cellsOf 3 = 1 := by kernel_rfl
theorem cells9 : Try.prog.cellsOf 9 = 1 := by kernel_rfl

section
variable {H : Type} {enc' : TypeId × Value → H} {W : World}

theorem inI_of {z : Int} (h : (Lit.int .i64 z).wf = true) : inI z := by
  simpa [Lit.wf, IntKind.min, IntKind.max, IntKind.bits, IntKind.signed, inI] using h

theorem plain_at {a : Addr} {x : Value} (h : W.cell? (a.add 0) = some x) : ∃ b off, a = ⟨b, off, none⟩ ∧ b < W.heap.size := by
  obtain ⟨b, off, spot⟩ := a
  have hs : spot = none := by simpa [Addr.add] using World.cell?_spot h
  subst hs
  exact ⟨b, off, rfl, World.block_lt_of_cell? W _ h⟩

theorem row_ints {fuel : Nat} {cs : List Value} {x : DataW H × List MemPlace} (h : DataW.trod enc' Try.prog W 0 (fun _ => true) true fuel 22 cs = some x) :
    ∃ v zs, cs = [v] ∧ Row W W.heap.size v (iv zs) ∧ ∀ z ∈ zs, inI z := by
  rcases open_ints Try.underlying22 Try.underlying3 cells3 h with ⟨hcs, _⟩ | ⟨a, len, cap, zs, hcs, _, hl, hm, hz, _, hcell, hwf⟩
  · exact ⟨_, [], hcs, ⟨none, 0, rfl, fun h => by simp [iv] at h⟩, by simp⟩
  · have hzl : len ≤ zs.length := by rw [hz]; simpa using hl
    refine ⟨_, zs.take len, hcs, ⟨some a, cap, by simp [iv, Nat.min_eq_left hzl], fun h0 => ?_⟩, fun z hz' => inI_of (hwf z (List.mem_of_mem_take hz'))⟩
    have h1 : 0 < zs.length := by simp [iv] at h0; omega
    obtain ⟨b, off, rfl, hb⟩ := plain_at (hcell 0 h1)
    refine ⟨b, off, rfl, hb, fun k hk => ?_⟩
    have hk2 : k < len ∧ k < zs.length := by simp [iv] at hk; omega
    rw [← Go.WideShapes.add_plain, hcell k hk2.2]
    simp [iv, List.getElem?_take, hk2.1, hk2.2, List.getD_eq_getElem?_getD]

theorem row_texts {fuel : Nat} {cs : List Value} {x : DataW H × List MemPlace} (h : DataW.trod enc' Try.prog W 0 (fun _ => true) true fuel 23 cs = some x) :
    ∃ v ss, cs = [v] ∧ Row W W.heap.size v (sv ss) ∧ ∀ s ∈ ss, s.length ≤ maxLen := by
  rcases open_strings Try.underlying23 Try.underlying9 cells9 h with ⟨hcs, _⟩ | ⟨a, len, cap, ss, hcs, _, hl, hm, hz, _, hcell, hwf⟩
  · exact ⟨_, [], hcs, ⟨none, 0, rfl, fun h => by simp [sv] at h⟩, by simp⟩
  · have hzl : len ≤ ss.length := by rw [hz]; simpa using hl
    refine ⟨_, (ss.take len).map (·.data.toList), hcs, ⟨some a, cap, by simp [sv, Nat.min_eq_left hzl], fun h0 => ?_⟩, fun s hs => ?_⟩
    · have h1 : 0 < ss.length := by simp [sv] at h0; omega
      obtain ⟨b, off, rfl, hb⟩ := plain_at (hcell 0 h1)
      refine ⟨b, off, rfl, hb, fun k hk => ?_⟩
      have hk2 : k < len ∧ k < ss.length := by simp [sv] at hk; omega
      rw [← Go.WideShapes.add_plain, hcell k hk2.2]
      simp [sv, List.getElem?_take, hk2.1, hk2.2, List.getD_eq_getElem?_getD, bs_data]
    · obtain ⟨t, ht, rfl⟩ := List.mem_map.1 hs
      have := hwf t (List.mem_of_mem_take ht)
      show t.data.toList.length ≤ _
      rw [Array.length_toList]; exact this

theorem open_row_ints {v : Value} {d : DataW H} {p : List MemPlace} {b0 : Nat} {r : Reach} (hv : Value.okWide Try.prog W r b0 22 v) (h : DataW.Trod enc' Try.prog W 0 (fun _ => true) true 22 v d p) :
    ∃ zs, Row W W.heap.size v (iv zs) ∧ ∀ z ∈ zs, inI z := by
  obtain ⟨a, len, cap, rfl⟩ := okWide_slice Try.underlying22 hv
  obtain ⟨fuel, hf⟩ := h
  obtain ⟨v, zs, hcs, hr, hz⟩ := row_ints hf
  have : v = .slice a len cap := by simpa [Value.cells] using hcs.symm
  subst this
  exact ⟨zs, hr, hz⟩
end
end Go.Proofs.Ytebepofbngdccaa
