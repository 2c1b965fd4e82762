/-
  Layer 7: the laws' arguments, opened: slices of deeds.
-/
import Derived.Test.YtognomkhkoiabaaJ23
import Derived.Test.YtognomkhkoiabaaDop
namespace Go.Proofs.Ytognomkhkoiabaa
set_option linter.unusedVariables false
set_option linter.unusedSimpArgs false
open Go.ChangeShapes Go.WideShapes Go.RowKit Go.Joins Go.Deep

theorem cellsE : Try.prog.cellsOf 35 = 5 := by kernel_rfl
theorem cellsStr : Try.prog.cellsOf 9 = 1 := by kernel_rfl
theorem cellsStrs : Try.prog.cellsOf 33 = 1 := by kernel_rfl
theorem cellsInts : Try.prog.cellsOf 23 = 1 := by kernel_rfl

section
variable {H : Type} {enc' : TypeId × Value → H} {W : World}

theorem some_at7 {α : Type} {ys : List α} {i n : Nat} (h : ys.length = n) (hi : i < n) : ∃ y, ys[i]? = some y := ⟨ys[i]'(by omega), List.getElem?_eq_getElem (by omega)⟩
set_option maxRecDepth 100000 in
theorem strs_of7 {fuel : Nat} {cs : List Value} {x : DataW H × List MemPlace} (h : DataW.trod enc' Try.prog W 0 (fun _ => true) true fuel 33 cs = some x) :
    ∃ v, cs = [v] ∧ ∃ l : List ByteArray, Row W W.heap.size v (sv l) := by
  rcases open_strings Try.underlying33 Try.underlying9 cellsStr h with ⟨hcs, _⟩ | ⟨a, len, cap, ss, hcs, _, hl, hm, hz, _, hcell, hwf⟩
  · exact ⟨_, hcs, [], none, 0, rfl, fun h => by simp [sv] at h⟩
  · have hzl : len ≤ ss.length := by rw [hz]; simpa using hl
    refine ⟨_, hcs, ss.take len, ⟨some a, cap, by rw [sv_length, List.length_take, Nat.min_eq_left hzl], fun h0 => ?_⟩⟩
    rw [sv_length] at h0
    have h1 : 0 < ss.length := by rw [List.length_take] at h0; omega
    obtain ⟨b, off, rfl, hb⟩ := plain_at (hcell 0 h1)
    refine ⟨b, off, rfl, hb, fun k hk => ?_⟩
    rw [sv_length] at hk
    have hk2 : k < len ∧ k < ss.length := by rw [List.length_take] at hk; omega
    rw [← Go.WideShapes.add_plain, hcell k hk2.2, sv_get _ k hk]
    simp [List.getElem_take, List.getD_eq_getElem?_getD, hk2.2]
set_option maxRecDepth 100000 in
set_option maxHeartbeats 1000000 in
theorem de_of {fuel : Nat} {cs : List Value} {x : DataW H × List MemPlace} (h : DataW.trod enc' Try.prog W 0 (fun _ => true) true fuel 35 cs = some x) :
    ∃ (a : De) (ur uk : Value), cs = [.int .i64 a.o, .string a.row, ur, uk, .int .i64 a.n] ∧ Row W W.heap.size ur (sv a.rows) ∧ IRow W W.heap.size uk a.keep ∧ a.wf := by
  obtain ⟨ys, n, _, hx, hlen, hyl, hf⟩ := DataW.trod_struct Try.underlying35 h
  rw [cellsE] at hlen
  match cs, hlen with
  | [c0, c1, c2, c3, c4], _ =>
    have h0 : DataW.trod enc' Try.prog W 0 (fun _ => true) true n 3 (([c0, c1, c2, c3, c4].drop 0).take (Try.prog.cellsOf 3)) = ys[0]? := hf 0 _ rfl
    have h1 : DataW.trod enc' Try.prog W 0 (fun _ => true) true n 9 (([c0, c1, c2, c3, c4].drop 1).take (Try.prog.cellsOf 9)) = ys[1]? := hf 1 _ rfl
    have h2 : DataW.trod enc' Try.prog W 0 (fun _ => true) true n 33 (([c0, c1, c2, c3, c4].drop 2).take (Try.prog.cellsOf 33)) = ys[2]? := hf 2 _ rfl
    have h3 : DataW.trod enc' Try.prog W 0 (fun _ => true) true n 23 (([c0, c1, c2, c3, c4].drop 3).take (Try.prog.cellsOf 23)) = ys[3]? := hf 3 _ rfl
    have h4 : DataW.trod enc' Try.prog W 0 (fun _ => true) true n 3 (([c0, c1, c2, c3, c4].drop 4).take (Try.prog.cellsOf 3)) = ys[4]? := hf 4 _ rfl
    rw [cells3] at h0 h4; rw [cellsStr] at h1; rw [cellsStrs] at h2; rw [cellsInts] at h3
    obtain ⟨y0, e0⟩ := some_at7 (i := 0) hyl (by decide)
    obtain ⟨y1, e1⟩ := some_at7 (i := 1) hyl (by decide)
    obtain ⟨y2, e2⟩ := some_at7 (i := 2) hyl (by decide)
    obtain ⟨y3, e3⟩ := some_at7 (i := 3) hyl (by decide)
    obtain ⟨y4, e4⟩ := some_at7 (i := 4) hyl (by decide)
    rw [e0] at h0; rw [e1] at h1; rw [e2] at h2; rw [e3] at h3; rw [e4] at h4
    obtain ⟨o, ho, _, how⟩ := DataW.trod_int Try.underlying3 h0
    obtain ⟨s, hs, _, _⟩ := DataW.trod_string Try.underlying9 h1
    obtain ⟨ur, hur, lr, hlr⟩ := strs_of7 h2
    obtain ⟨uk, huk, lk, hlk, _⟩ := ints_of h3
    obtain ⟨m, hm, _, hmw⟩ := DataW.trod_int Try.underlying3 h4
    have k0 : c0 = .int .i64 o := by simpa using ho
    have k1 : c1 = .string s := by simpa using hs
    have k2 : c2 = ur := by simpa using hur
    have k3 : c3 = uk := by simpa using huk
    have k4 : c4 = .int .i64 m := by simpa using hm
    subst k0; subst k1; subst k2; subst k3; subst k4
    exact ⟨⟨o, s, lr, lk, m⟩, _, _, rfl, hlr, hlk, ⟨int_wf how, int_wf hmw⟩⟩
/-- A slice of deeds. -/
def OpenDeeds (W : World) (v : Value) (l : List De) : Prop := ERow W W.heap.size v l ∧ (∀ k, k < l.length → (gd l k).wf) ∧ l.length ≤ 9223372036854775807
set_option maxRecDepth 100000 in
set_option maxHeartbeats 1000000 in
theorem open_deeds {v : Value} {d : DataW H} {p : List MemPlace} {b0 : Nat} {r : Reach} (hv : Value.okWide Try.prog W r b0 22 v) (h : DataW.Trod enc' Try.prog W 0 (fun _ => true) true 22 v d p) :
    ∃ l : List De, OpenDeeds W v l := by
  obtain ⟨a0, len0, cap0, rfl⟩ := okWide_slice Try.underlying22 hv
  obtain ⟨fuel, hf⟩ := h
  rcases open_slice Try.underlying22 hf with ⟨hcs, _⟩ | ⟨a, len, cap, m, n, D, Pl, hcs, _, hl, hm, hmm, hx, hi⟩
  · have e : Value.slice a0 len0 cap0 = .slice none 0 0 := by simpa [Value.cells] using hcs
    rw [e]
    exact ⟨[], ⟨none, 0, rfl, fun h => by simp at h⟩, fun k hk => by simp at hk, by simp⟩
  · have e : Value.slice a0 len0 cap0 = .slice (some a) len cap := by simpa [Value.cells] using hcs
    rw [e]
    rw [cellsE] at hi
    have hml : len ≤ m := by rw [hmm]; simpa using hl
    have each : ∀ i, i < len → ∃ (x : De) (ur uk : Value), Row W W.heap.size ur (sv x.rows) ∧ IRow W W.heap.size uk x.keep ∧ x.wf ∧ ∀ j, j < 5 → W.cell? ((a.add (i * 5)).add j) = [Value.int .i64 x.o, .string x.row, ur, uk, .int .i64 x.n][j]? := by
      intro i him
      obtain ⟨cs', hc, ht⟩ := hi i (by omega)
      obtain ⟨x, ur, uk, hcs', h1, h2, h3⟩ := de_of ht
      obtain ⟨_, _, hat⟩ := World.cells?_some hc
      exact ⟨x, ur, uk, h1, h2, h3, fun j hj => by rw [hat j hj, hcs']⟩
    classical
    let f : Nat → De := fun i => if h : i < len then (each i h).choose else default
    have hf' : ∀ i (h : i < len), ∃ (ur uk : Value), Row W W.heap.size ur (sv (f i).rows) ∧ IRow W W.heap.size uk (f i).keep ∧ (f i).wf ∧ ∀ j, j < 5 → W.cell? ((a.add (i * 5)).add j) = [Value.int .i64 (f i).o, .string (f i).row, ur, uk, .int .i64 (f i).n][j]? := by
      intro i h
      have := (each i h).choose_spec
      simp only [f, dif_pos h]
      exact this
    have hg : ∀ k, k < len → gd ((List.range len).map f) k = f k := fun k hk => by
      rw [gd_get _ _ (by simpa using hk)]; simp
    refine ⟨(List.range len).map f, ⟨some a, cap, by simp, fun h0 => ?_⟩, fun k hk => ?_, by simp; unfold maxLen at hm; omega⟩
    · have h1 : 0 < len := by simpa using h0
      obtain ⟨ur, uk, _, _, _, hc⟩ := hf' 0 h1
      have hc0 := hc 0 (by omega)
      rw [Nat.zero_mul] at hc0
      have e0 : (a.add 0).add 0 = a.add 0 := by simp [Addr.add]
      rw [e0] at hc0
      obtain ⟨b, off, rfl, hb⟩ := plain_at hc0
      refine ⟨b, off, rfl, hb, fun k hk => ?_⟩
      have hkl : k < len := by simpa using hk
      obtain ⟨ur, uk, h1, h2, _, hc⟩ := hf' k hkl
      rw [hg k hkl]
      have hadd : ∀ j, ((⟨b, off, none⟩ : Addr).add (k * 5)).add j = ⟨b, off + k * 5 + j, none⟩ := fun j => by rw [Go.WideShapes.add_plain, Go.WideShapes.add_plain]
      refine ⟨ur, uk, h1, h2, ?_, ?_, ?_, ?_, ?_⟩
      · have := hc 0 (by omega); rw [hadd] at this; exact this
      · have := hc 1 (by omega); rw [hadd] at this; exact this
      · have := hc 2 (by omega); rw [hadd] at this; exact this
      · have := hc 3 (by omega); rw [hadd] at this; exact this
      · have := hc 4 (by omega); rw [hadd] at this; exact this
    · have hkl : k < len := by simpa using hk
      obtain ⟨_, _, _, _, h3, _⟩ := hf' k hkl
      rw [hg k hkl]; exact h3
end
end Go.Proofs.Ytognomkhkoiabaa
