/-
  The law's arguments, opened: the struct Value, slices of Value.
-/
import Derived.Test.YtebepofbngdccaaOpen
import Derived.Test.YtebepofbngdccaaVal
namespace Go.Proofs.Ytebepofbngdccaa
set_option linter.unusedVariables false
set_option linter.unusedSimpArgs false
open Go.ChangeShapes Go.WideShapes Go.RowKit Go.Joins Go.Deep

theorem cells25 : Try.prog.cellsOf 25 = 5 := by kernel_rfl
theorem cells22 : Try.prog.cellsOf 22 = 1 := by kernel_rfl
theorem cells23 : Try.prog.cellsOf 23 = 1 := by kernel_rfl

section
variable {H : Type} {enc' : TypeId × Value → H} {W : World}

theorem some_at {α : Type} {ys : List α} {i n : Nat} (h : ys.length = n) (hi : i < n) : ∃ y, ys[i]? = some y := ⟨ys[i]'(by omega), List.getElem?_eq_getElem (by omega)⟩

theorem val_of {fuel : Nat} {cs : List Value} {x : DataW H × List MemPlace} (h : DataW.trod enc' Try.prog W 0 (fun _ => true) true fuel 25 cs = some x) :
    ∃ v vL vT, cs = [.int .i64 v.k, .int .i64 v.n, .string (bs v.s), vL, vT] ∧ VOk W W.heap.size vL vT v ∧ okV v := by
  obtain ⟨ys, n, _, _, hlen, hyl, hf⟩ := DataW.trod_struct Try.underlying25 h
  rw [cells25] at hlen
  match cs, hlen with
  | [c0, c1, c2, c3, c4], _ =>
    have h0 : DataW.trod enc' Try.prog W 0 (fun _ => true) true n 3 (([c0, c1, c2, c3, c4].drop 0).take (Try.prog.cellsOf 3)) = ys[0]? := hf 0 _ rfl
    have h1 : DataW.trod enc' Try.prog W 0 (fun _ => true) true n 3 (([c0, c1, c2, c3, c4].drop 1).take (Try.prog.cellsOf 3)) = ys[1]? := hf 1 _ rfl
    have h2 : DataW.trod enc' Try.prog W 0 (fun _ => true) true n 9 (([c0, c1, c2, c3, c4].drop 2).take (Try.prog.cellsOf 9)) = ys[2]? := hf 2 _ rfl
    have h3 : DataW.trod enc' Try.prog W 0 (fun _ => true) true n 22 (([c0, c1, c2, c3, c4].drop 3).take (Try.prog.cellsOf 22)) = ys[3]? := hf 3 _ rfl
    have h4 : DataW.trod enc' Try.prog W 0 (fun _ => true) true n 23 (([c0, c1, c2, c3, c4].drop 4).take (Try.prog.cellsOf 23)) = ys[4]? := hf 4 _ rfl
    rw [cells3] at h0 h1; rw [cells9] at h2; rw [cells22] at h3; rw [cells23] at h4
    obtain ⟨y0, e0⟩ := some_at (i := 0) hyl (by decide)
    obtain ⟨y1, e1⟩ := some_at (i := 1) hyl (by decide)
    obtain ⟨y2, e2⟩ := some_at (i := 2) hyl (by decide)
    obtain ⟨y3, e3⟩ := some_at (i := 3) hyl (by decide)
    obtain ⟨y4, e4⟩ := some_at (i := 4) hyl (by decide)
    rw [e0] at h0; rw [e1] at h1; rw [e2] at h2; rw [e3] at h3; rw [e4] at h4
    obtain ⟨k, hk, _, _⟩ := DataW.trod_int Try.underlying3 h0
    obtain ⟨m, hm, _, hmw⟩ := DataW.trod_int Try.underlying3 h1
    obtain ⟨s, hs, _, _⟩ := DataW.trod_string Try.underlying9 h2
    obtain ⟨vL, zs, hL, hrL, hz⟩ := row_ints h3
    obtain ⟨vT, ss, hT, hrT, _⟩ := row_texts h4
    have k0 : c0 = .int .i64 k := by simpa using hk
    have k1 : c1 = .int .i64 m := by simpa using hm
    have k2 : c2 = .string s := by simpa using hs
    have k3 : c3 = vL := by simpa using hL
    have k4 : c4 = vT := by simpa using hT
    subst k0; subst k1; subst k2; subst k3; subst k4
    exact ⟨⟨k, m, s.data.toList, zs, ss⟩, _, _, by rw [bs_data], ⟨hrL, hrT⟩, ⟨inI_of hmw, hz⟩⟩

theorem open_val {v : Value} {d : DataW H} {p : List MemPlace} {b0 : Nat} {r : Reach} (hv : Value.okWide Try.prog W r b0 25 v) (h : DataW.Trod enc' Try.prog W 0 (fun _ => true) true 25 v d p) :
    ∃ x vL vT, v = .agg #[.int .i64 x.k, .int .i64 x.n, .string (bs x.s), vL, vT] ∧ VOk W W.heap.size vL vT x ∧ okV x := by
  obtain ⟨cs, rfl, hsz⟩ := okWide_struct Try.underlying25 hv
  obtain ⟨fuel, hf⟩ := h
  obtain ⟨x, vL, vT, hcs, ho, hk⟩ := val_of hf
  refine ⟨x, vL, vT, ?_, ho, hk⟩
  have : cs.toList = [.int .i64 x.k, .int .i64 x.n, .string (bs x.s), vL, vT] := by simpa [Value.cells] using hcs
  congr 1
  exact Array.ext' this

theorem open_vals {v : Value} {d : DataW H} {p : List MemPlace} {b0 : Nat} {r : Reach} (hv : Value.okWide Try.prog W r b0 28 v) (h : DataW.Trod enc' Try.prog W 0 (fun _ => true) true 28 v d p) :
    ∃ xs, VRow W W.heap.size v xs ∧ (∀ x ∈ xs, okV x) ∧ xs.length ≤ maxLen := by
  obtain ⟨a0, len0, cap0, rfl⟩ := okWide_slice Try.underlying28 hv
  obtain ⟨fuel, hf⟩ := h
  rcases open_slice Try.underlying28 hf with ⟨hcs, _⟩ | ⟨a, len, cap, m, n, D, Pl, hcs, _, hl, hm, hmm, _, hi⟩
  · have e : Value.slice a0 len0 cap0 = .slice none 0 0 := by simpa [Value.cells] using hcs
    rw [e]
    exact ⟨[], ⟨none, 0, rfl, fun h => by simp at h⟩, by simp, by simp [maxLen]⟩
  · have e : Value.slice a0 len0 cap0 = .slice (some a) len cap := by simpa [Value.cells] using hcs
    rw [e]
    rw [cells25] at hi
    have hml : len ≤ m := by rw [hmm]; simpa using hl
    have each : ∀ i, i < len → ∃ x vL vT, VOk W W.heap.size vL vT x ∧ okV x ∧ ∀ j, j < 5 → W.cell? ((a.add (i * 5)).add j) = [Value.int .i64 x.k, .int .i64 x.n, .string (bs x.s), vL, vT][j]? := by
      intro i him
      obtain ⟨cs', hc, ht⟩ := hi i (by omega)
      obtain ⟨x, vL, vT, hcs', ho, hk⟩ := val_of ht
      obtain ⟨_, _, hat⟩ := World.cells?_some hc
      exact ⟨x, vL, vT, ho, hk, fun j hj => by rw [hat j hj, hcs']⟩
    classical
    let f : Nat → Val := fun i => if h : i < len then (each i h).choose else ⟨0, 0, [], [], []⟩
    have hf' : ∀ i (h : i < len), ∃ vL vT, VOk W W.heap.size vL vT (f i) ∧ okV (f i) ∧ ∀ j, j < 5 → W.cell? ((a.add (i * 5)).add j) = [Value.int .i64 (f i).k, .int .i64 (f i).n, .string (bs (f i).s), vL, vT][j]? := by
      intro i h
      have := (each i h).choose_spec
      simp only [f, dif_pos h]
      exact this
    refine ⟨(List.range len).map f, ⟨some a, cap, by simp, fun h0 => ?_⟩, fun x hx => ?_, by simp; omega⟩
    · have h1 : 0 < len := by simpa using h0
      obtain ⟨vL, vT, _, _, hc⟩ := hf' 0 h1
      have hc0 := hc 0 (by omega)
      rw [Nat.zero_mul] at hc0
      have e0 : (a.add 0).add 0 = a.add 0 := by simp [Addr.add]
      rw [e0] at hc0
      obtain ⟨b, off, rfl, hb⟩ := plain_at hc0
      refine ⟨b, off, rfl, hb, fun k hk => ?_⟩
      have hkl : k < len := by simpa using hk
      obtain ⟨vL, vT, ho, _, hc⟩ := hf' k hkl
      have hx : ((List.range len).map f)[k] = f k := by simp
      rw [hx]
      have hadd : ∀ j, ((⟨b, off, none⟩ : Addr).add (k * 5)).add j = ⟨b, off + k * 5 + j, none⟩ := fun j => by rw [Go.WideShapes.add_plain, Go.WideShapes.add_plain]
      refine ⟨vL, vT, ho, ?_, ?_, ?_, ?_, ?_⟩
      · have := hc 0 (by omega); rw [hadd] at this; exact this
      · have := hc 1 (by omega); rw [hadd] at this; exact this
      · have := hc 2 (by omega); rw [hadd] at this; exact this
      · have := hc 3 (by omega); rw [hadd] at this; exact this
      · have := hc 4 (by omega); rw [hadd] at this; exact this
    · obtain ⟨i, hi', rfl⟩ := List.mem_map.1 hx
      obtain ⟨_, _, _, hk, _⟩ := hf' i (by simpa using hi')
      exact hk
end
end Go.Proofs.Ytebepofbngdccaa
