/-
  Layer 6: slices of strings as arguments.
-/
import Derived.Test.YtkhmaaneekdifaaDoa
namespace Go.Proofs.Ytkhmaaneekdifaa
set_option linter.unusedVariables false
set_option linter.unusedSimpArgs false
open Go.ChangeShapes Go.WideShapes Go.RowKit Go.Joins Go.Deep

def gs (l : List ByteArray) (i : Nat) : ByteArray := l.getD i (bs [])
theorem gs_get (l : List ByteArray) (i : Nat) (h : i < l.length) : gs l i = l[i] := by unfold gs; rw [List.getD_eq_getElem?_getD, List.getElem?_eq_getElem h]; rfl
/-- A slice of strings, in memory below B. -/
def StrRow (w : World) (B : Nat) (v : Value) (l : List ByteArray) : Prop :=
  ∃ A cap, v = .slice A l.length cap ∧ (0 < l.length → ∃ b off, A = some ⟨b, off, none⟩ ∧ b < B ∧ ∀ k, k < l.length → w.cell? ⟨b, off + k, none⟩ = some (.string (gs l k)))
theorem StrRow.keep {w w' : World} {v : Value} {l : List ByteArray} (h : StrRow w w.heap.size v l) (hb : Below w.heap.size w w') : StrRow w' w'.heap.size v l := by
  obtain ⟨A, cap, hv, hA⟩ := h
  refine ⟨A, cap, hv, fun h0 => ?_⟩
  obtain ⟨b, off, ha, hB, hc⟩ := hA h0
  exact ⟨b, off, ha, Nat.lt_of_lt_of_le hB hb.size, fun k hk => keep_below hb (hc k hk)⟩
def OpenStrs (W : World) (v : Value) (l : List ByteArray) : Prop := StrRow W W.heap.size v l ∧ (∀ t ∈ l, t.size ≤ 140737488351232) ∧ l.length ≤ 9223372036854775807
section
variable {H : Type} {enc' : TypeId × Value → H} {W : World}
set_option maxRecDepth 100000 in
set_option maxHeartbeats 1000000 in
theorem open_strs {v : Value} {d : DataW H} {p : List MemPlace} {b0 : Nat} {r : Reach} (hv : Value.okWide Try.prog W r b0 40 v) (h : DataW.Trod enc' Try.prog W 0 (fun _ => true) true 40 v d p) (hw : ∀ m ∈ d.weights Try.prog 40, m ≤ reachBytes) :
    ∃ l : List ByteArray, OpenStrs W v l := by
  obtain ⟨a0, len0, cap0, rfl⟩ := okWide_slice Try.underlying40 hv
  obtain ⟨fuel, hf⟩ := h
  rcases open_slice Try.underlying40 hf with ⟨hcs, _⟩ | ⟨a, len, cap, m, n, D, Pl, hcs, _, hl, hm, hmm, hx, hi⟩
  · have e : Value.slice a0 len0 cap0 = .slice none 0 0 := by simpa [Value.cells] using hcs
    rw [e]
    exact ⟨[], ⟨none, 0, rfl, fun h => by simp at h⟩, by simp, by simp⟩
  · have e : Value.slice a0 len0 cap0 = .slice (some a) len cap := by simpa [Value.cells] using hcs
    rw [e]
    rw [cellsS] at hi
    have hml : len ≤ m := by rw [hmm]; simpa using hl
    have hd : d = .slice ((List.range len).map D) ((List.range (m - len)).map fun j => D (len + j)) := by
      have := congrArg Prod.fst hx; exact this
    have hwD : ∀ i, i < len → ∀ k ∈ (D i).weights Try.prog 9, k ≤ reachBytes := fun i hil k hk => by
      refine hw k ?_
      rw [hd]
      have := weights_all_mem (P := Try.prog) (e := 9) (ds := (List.range len).map D) (List.mem_map.2 ⟨i, by simpa using hil, rfl⟩) k hk
      simp only [DataW.weights, Try.underlying40, List.mem_cons, List.mem_append]
      exact .inr (.inl this)
    have each : ∀ i, i < len → ∃ t : ByteArray, t.size ≤ 140737488351232 ∧ W.cell? (a.add (i * 1)) = some (.string t) := by
      intro i him
      obtain ⟨cs', hc, ht⟩ := hi i (by omega)
      obtain ⟨t, hcs', hx', _⟩ := DataW.trod_string Try.underlying9 ht
      obtain ⟨_, _, hat⟩ := World.cells?_some hc
      have h0 := hat 0 (by omega)
      rw [hcs'] at h0
      have hD : D i = .lit (.string t.data.toList) := by have := congrArg Prod.fst hx'; exact this
      have hs := hwD i him t.data.toList.length (by rw [hD]; simp [DataW.weights])
      rw [dl_len] at hs
      unfold reachBytes at hs
      refine ⟨t, hs, ?_⟩
      have e0 : (a.add (i * 1)).add 0 = a.add (i * 1) := by simp [Addr.add]
      rw [e0] at h0
      exact h0
    classical
    let f : Nat → ByteArray := fun i => if h : i < len then (each i h).choose else bs []
    have hf' : ∀ i (h : i < len), (f i).size ≤ 140737488351232 ∧ W.cell? (a.add (i * 1)) = some (.string (f i)) := by
      intro i h
      have := (each i h).choose_spec
      simp only [f, dif_pos h]
      exact this
    have hg : ∀ k, k < len → gs ((List.range len).map f) k = f k := fun k hk => by
      rw [gs_get _ _ (by simpa using hk)]; simp
    refine ⟨(List.range len).map f, ⟨some a, cap, by simp, fun h0 => ?_⟩, fun x hx => ?_, by simp; unfold maxLen at hm; omega⟩
    · have h1 : 0 < len := by simpa using h0
      have hc0 := (hf' 0 h1).2
      rw [Nat.zero_mul] at hc0
      obtain ⟨b, off, rfl, hb⟩ := plain_at hc0
      refine ⟨b, off, rfl, hb, fun k hk => ?_⟩
      have hkl : k < len := by simpa using hk
      have hc := (hf' k hkl).2
      rw [Go.WideShapes.add_plain, Nat.mul_one] at hc
      rw [hg k hkl]; exact hc
    · obtain ⟨i, hi', rfl⟩ := List.mem_map.1 hx
      exact (hf' i (by simpa using hi')).1
end
end Go.Proofs.Ytkhmaaneekdifaa
