/-
  Layer 6: the laws' arguments, opened: slices of operations, with what the reach says of their strings and rows.
-/
import Derived.Test.YtlphblnnloigiaaDop
import Derived.Test.YtlphblnnloigiaaDfew
import Derived.SizedLaws
namespace Go.Proofs.Ytlphblnnloigiaa
set_option linter.unusedVariables false
set_option linter.unusedSimpArgs false
open Go.ChangeShapes Go.WideShapes Go.RowKit Go.Joins Go.Deep

theorem cellsA : Try.prog.cellsOf 30 = 6 := by kernel_rfl
theorem cellsS : Try.prog.cellsOf 9 = 1 := by kernel_rfl
theorem cellsK : Try.prog.cellsOf 23 = 1 := by kernel_rfl
theorem bytesI : Try.prog.bytesOf 3 = 8 := by kernel_rfl

section
variable {H : Type} {enc' : TypeId × Value → H} {W : World}

theorem some_at {α : Type} {ys : List α} {i n : Nat} (h : ys.length = n) (hi : i < n) : ∃ y, ys[i]? = some y := ⟨ys[i]'(by omega), List.getElem?_eq_getElem (by omega)⟩
set_option maxRecDepth 100000 in
theorem ints_ofx {fuel : Nat} {cs : List Value} {x : DataW H × List MemPlace} (h : DataW.trod enc' Try.prog W 0 (fun _ => true) true fuel 23 cs = some x) :
    ∃ v, cs = [v] ∧ ∃ l : List Int, IRow W W.heap.size v l ∧ ∀ R, (∀ m ∈ x.1.weights Try.prog 23, m ≤ R) → l.length * 8 ≤ R := by
  rcases open_ints Try.underlying23 Try.underlying3 cells3 h with ⟨hcs, _⟩ | ⟨a, len, cap, zs, hcs, _, hl, hm, hz, rfl, hcell, hwf⟩
  · exact ⟨_, hcs, [], irow_nil W W.heap.size, fun R _ => by simp⟩
  · have hzl : len ≤ zs.length := by rw [hz]; simpa using hl
    refine ⟨_, hcs, zs.take len, ⟨some a, cap, by rw [List.length_take, Nat.min_eq_left hzl], by rw [List.length_take]; omega, hm, (fun h => by cases h), fun h0 => ?_⟩, fun R hR => ?_⟩
    · have h1 : 0 < zs.length := by rw [List.length_take] at h0; omega
      obtain ⟨b, off, rfl, hb⟩ := plain_at (hcell 0 h1)
      refine ⟨b, off, rfl, hb, fun k hk => ?_⟩
      have hk2 : k < len ∧ k < zs.length := by rw [List.length_take] at hk; omega
      rw [← Go.WideShapes.add_plain, hcell k hk2.2]
      simp [List.getElem_take, List.getD_eq_getElem?_getD, hk2.2]
    · have := hR ((((zs.take len).length) + ((zs.drop len).length)) * Try.prog.bytesOf 3) (by simp [DataW.weights, Try.underlying23, lits])
      rw [bytesI] at this
      omega

set_option maxRecDepth 100000 in
set_option maxHeartbeats 1000000 in
theorem act_of {fuel : Nat} {cs : List Value} {x : DataW H × List MemPlace} (h : DataW.trod enc' Try.prog W 0 (fun _ => true) true fuel 30 cs = some x) :
    ∃ (a : Ac) (u : Value), cs = [.int .i64 a.o, .int .i64 a.f, .int .i64 a.g, .int .i64 a.n, .string a.s, u] ∧ IRow W W.heap.size u a.keep ∧ ((∀ m ∈ x.1.weights Try.prog 30, m ≤ reachBytes) → a.wf) := by
  obtain ⟨ys, n, _, hx, hlen, hyl, hf⟩ := DataW.trod_struct Try.underlying30 h
  rw [cellsA] at hlen
  match cs, hlen with
  | [c0, c1, c2, c3, c4, c5], _ =>
    have h0 : DataW.trod enc' Try.prog W 0 (fun _ => true) true n 3 (([c0, c1, c2, c3, c4, c5].drop 0).take (Try.prog.cellsOf 3)) = ys[0]? := hf 0 _ rfl
    have h1 : DataW.trod enc' Try.prog W 0 (fun _ => true) true n 3 (([c0, c1, c2, c3, c4, c5].drop 1).take (Try.prog.cellsOf 3)) = ys[1]? := hf 1 _ rfl
    have h2 : DataW.trod enc' Try.prog W 0 (fun _ => true) true n 3 (([c0, c1, c2, c3, c4, c5].drop 2).take (Try.prog.cellsOf 3)) = ys[2]? := hf 2 _ rfl
    have h3 : DataW.trod enc' Try.prog W 0 (fun _ => true) true n 3 (([c0, c1, c2, c3, c4, c5].drop 3).take (Try.prog.cellsOf 3)) = ys[3]? := hf 3 _ rfl
    have h4 : DataW.trod enc' Try.prog W 0 (fun _ => true) true n 9 (([c0, c1, c2, c3, c4, c5].drop 4).take (Try.prog.cellsOf 9)) = ys[4]? := hf 4 _ rfl
    have h5 : DataW.trod enc' Try.prog W 0 (fun _ => true) true n 23 (([c0, c1, c2, c3, c4, c5].drop 5).take (Try.prog.cellsOf 23)) = ys[5]? := hf 5 _ rfl
    rw [cells3] at h0 h1 h2 h3; rw [cellsS] at h4; rw [cellsK] at h5
    obtain ⟨y0, e0⟩ := some_at (i := 0) hyl (by decide)
    obtain ⟨y1, e1⟩ := some_at (i := 1) hyl (by decide)
    obtain ⟨y2, e2⟩ := some_at (i := 2) hyl (by decide)
    obtain ⟨y3, e3⟩ := some_at (i := 3) hyl (by decide)
    obtain ⟨y4, e4⟩ := some_at (i := 4) hyl (by decide)
    obtain ⟨y5, e5⟩ := some_at (i := 5) hyl (by decide)
    rw [e0] at h0; rw [e1] at h1; rw [e2] at h2; rw [e3] at h3; rw [e4] at h4; rw [e5] at h5
    obtain ⟨o, ho, _, how⟩ := DataW.trod_int Try.underlying3 h0
    obtain ⟨f, hf', _, hfw⟩ := DataW.trod_int Try.underlying3 h1
    obtain ⟨g, hg, _, hgw⟩ := DataW.trod_int Try.underlying3 h2
    obtain ⟨m, hm, _, hmw⟩ := DataW.trod_int Try.underlying3 h3
    obtain ⟨s, hs, hsx, _⟩ := DataW.trod_string Try.underlying9 h4
    obtain ⟨u, hu, l, hl, hlw⟩ := ints_ofx h5
    have k0 : c0 = .int .i64 o := by simpa using ho
    have k1 : c1 = .int .i64 f := by simpa using hf'
    have k2 : c2 = .int .i64 g := by simpa using hg
    have k3 : c3 = .int .i64 m := by simpa using hm
    have k4 : c4 = .string s := by simpa using hs
    have k5 : c5 = u := by simpa using hu
    subst k0; subst k1; subst k2; subst k3; subst k4; subst k5
    refine ⟨⟨o, f, g, m, s, l⟩, _, rfl, hl, fun hw => ?_⟩
    have hx1 : x.1 = .agg (ys.map (·.1)) := by rw [hx]
    have hwe : ∀ (j : Nat) (t : TypeId) (d : DataW H), ([3, 3, 3, 3, 9, 23] : List TypeId)[j]? = some t → (ys.map (·.1))[j]? = some d → ∀ m ∈ d.weights Try.prog t, m ≤ reachBytes := fun j t d ht hd m hm => by
      refine hw m ?_
      rw [hx1]
      have hmm := DataW.weights_mem_each (P := Try.prog) ht hd m hm
      simpa [DataW.weights, Try.underlying30] using hmm
    have hss := hwe 4 9 y4.1 rfl (by rw [List.getElem?_map, e4]; rfl)
    have hkk := hlw reachBytes (hwe 5 23 y5.1 rfl (by rw [List.getElem?_map, e5]; rfl))
    rw [hsx] at hss
    have hs2 := hss s.data.toList.length (by simp [DataW.weights])
    rw [dl_len] at hs2
    unfold reachBytes at hs2 hkk
    exact ⟨int_wf how, int_wf hfw, int_wf hgw, int_wf hmw, hs2, by show l.length ≤ _; omega⟩

theorem weights_all_mem {P : Program} {e : TypeId} : ∀ {ds : List (DataW H)} {d : DataW H}, d ∈ ds → ∀ n ∈ d.weights P e, n ∈ DataW.weightsAll P e ds
  | d0 :: ds, d, hd, n, hn => by
    simp only [DataW.weightsAll, List.mem_append]
    rcases List.mem_cons.1 hd with rfl | hd
    · exact .inl hn
    · exact .inr (weights_all_mem hd n hn)
/-- A slice of operations. -/
def OpenActs (W : World) (v : Value) (l : List Ac) : Prop := ARow W W.heap.size v l ∧ (∀ a ∈ l, a.wf) ∧ l.length ≤ 9223372036854775807
set_option maxRecDepth 100000 in
set_option maxHeartbeats 1000000 in
theorem open_acts {v : Value} {d : DataW H} {p : List MemPlace} {b0 : Nat} {r : Reach} (hv : Value.okWide Try.prog W r b0 22 v) (h : DataW.Trod enc' Try.prog W 0 (fun _ => true) true 22 v d p) (hw : ∀ m ∈ d.weights Try.prog 22, m ≤ reachBytes) :
    ∃ l : List Ac, OpenActs W v l := by
  obtain ⟨a0, len0, cap0, rfl⟩ := okWide_slice Try.underlying22 hv
  obtain ⟨fuel, hf⟩ := h
  rcases open_slice Try.underlying22 hf with ⟨hcs, _⟩ | ⟨a, len, cap, m, n, D, Pl, hcs, _, hl, hm, hmm, hx, hi⟩
  · have e : Value.slice a0 len0 cap0 = .slice none 0 0 := by simpa [Value.cells] using hcs
    rw [e]
    exact ⟨[], ⟨none, 0, rfl, fun h => by simp at h⟩, by simp, by simp⟩
  · have e : Value.slice a0 len0 cap0 = .slice (some a) len cap := by simpa [Value.cells] using hcs
    rw [e]
    rw [cellsA] at hi
    have hml : len ≤ m := by rw [hmm]; simpa using hl
    have hd : d = .slice ((List.range len).map D) ((List.range (m - len)).map fun j => D (len + j)) := by
      have := congrArg Prod.fst hx; exact this
    have hwD : ∀ i, i < len → ∀ k ∈ (D i).weights Try.prog 30, k ≤ reachBytes := fun i hil k hk => by
      refine hw k ?_
      rw [hd]
      have := weights_all_mem (P := Try.prog) (e := 30) (ds := (List.range len).map D) (List.mem_map.2 ⟨i, by simpa using hil, rfl⟩) k hk
      simp only [DataW.weights, Try.underlying22, List.mem_cons, List.mem_append]
      exact .inr (.inl this)
    have each : ∀ i, i < len → ∃ (x : Ac) (u : Value), IRow W W.heap.size u x.keep ∧ x.wf ∧ ∀ j, j < 6 → W.cell? ((a.add (i * 6)).add j) = [Value.int .i64 x.o, .int .i64 x.f, .int .i64 x.g, .int .i64 x.n, .string x.s, u][j]? := by
      intro i him
      obtain ⟨cs', hc, ht⟩ := hi i (by omega)
      obtain ⟨x, u, hcs', ho, hk⟩ := act_of ht
      obtain ⟨_, _, hat⟩ := World.cells?_some hc
      exact ⟨x, u, ho, hk (hwD i him), fun j hj => by rw [hat j hj, hcs']⟩
    classical
    let f : Nat → Ac := fun i => if h : i < len then (each i h).choose else default
    have hf' : ∀ i (h : i < len), ∃ u : Value, IRow W W.heap.size u (f i).keep ∧ (f i).wf ∧ ∀ j, j < 6 → W.cell? ((a.add (i * 6)).add j) = [Value.int .i64 (f i).o, .int .i64 (f i).f, .int .i64 (f i).g, .int .i64 (f i).n, .string (f i).s, u][j]? := by
      intro i h
      have := (each i h).choose_spec
      simp only [f, dif_pos h]
      exact this
    have hg : ∀ k, k < len → ga ((List.range len).map f) k = f k := fun k hk => by
      rw [ga_get _ _ (by simpa using hk)]; simp
    refine ⟨(List.range len).map f, ⟨some a, cap, by simp, fun h0 => ?_⟩, fun x hx => ?_, by simp; unfold maxLen at hm; omega⟩
    · have h1 : 0 < len := by simpa using h0
      obtain ⟨u, _, _, hc⟩ := hf' 0 h1
      have hc0 := hc 0 (by omega)
      rw [Nat.zero_mul] at hc0
      have e0 : (a.add 0).add 0 = a.add 0 := by simp [Addr.add]
      rw [e0] at hc0
      obtain ⟨b, off, rfl, hb⟩ := plain_at hc0
      refine ⟨b, off, rfl, hb, fun k hk => ?_⟩
      have hkl : k < len := by simpa using hk
      obtain ⟨u, ho, _, hc⟩ := hf' k hkl
      rw [hg k hkl]
      have hadd : ∀ j, ((⟨b, off, none⟩ : Addr).add (k * 6)).add j = ⟨b, off + k * 6 + j, none⟩ := fun j => by rw [Go.WideShapes.add_plain, Go.WideShapes.add_plain]
      refine ⟨u, ho, ?_, ?_, ?_, ?_, ?_, ?_⟩
      · have := hc 0 (by omega); rw [hadd] at this; exact this
      · have := hc 1 (by omega); rw [hadd] at this; exact this
      · have := hc 2 (by omega); rw [hadd] at this; exact this
      · have := hc 3 (by omega); rw [hadd] at this; exact this
      · have := hc 4 (by omega); rw [hadd] at this; exact this
      · have := hc 5 (by omega); rw [hadd] at this; exact this
    · obtain ⟨i, hi', rfl⟩ := List.mem_map.1 hx
      obtain ⟨_, _, hk, _⟩ := hf' i (by simpa using hi')
      exact hk
/-- One operation. -/
def OpenAct (W : World) (v : Value) (a : Ac) : Prop := ∃ u, v = av a u ∧ IRow W W.heap.size u a.keep ∧ a.wf
set_option maxRecDepth 100000 in
theorem open_act {v : Value} {d : DataW H} {p : List MemPlace} {b0 : Nat} {r : Reach} (hv : Value.okWide Try.prog W r b0 30 v) (h : DataW.Trod enc' Try.prog W 0 (fun _ => true) true 30 v d p) (hw : ∀ m ∈ d.weights Try.prog 30, m ≤ reachBytes) :
    ∃ a : Ac, OpenAct W v a := by
  obtain ⟨cs, rfl, hsz⟩ := okWide_struct Try.underlying30 hv
  obtain ⟨fuel, hf⟩ := h
  obtain ⟨a, u, hcs, ho, hk⟩ := act_of hf
  refine ⟨a, u, ?_, ho, hk hw⟩
  have : cs.toList = [.int .i64 a.o, .int .i64 a.f, .int .i64 a.g, .int .i64 a.n, .string a.s, u] := by simpa [Value.cells] using hcs
  unfold av
  congr 1
  exact Array.ext' this
end
end Go.Proofs.Ytlphblnnloigiaa
