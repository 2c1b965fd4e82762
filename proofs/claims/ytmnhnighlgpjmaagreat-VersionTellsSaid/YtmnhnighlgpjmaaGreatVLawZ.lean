/-
  The laws' arguments, opened: a slice of declarations, a declaration.
  Layer 8: what the laws' walks share.
-/
import Derived.Test.YtmnhnighlgpjmaaGreatVLineZ
import Derived.OpenShut
import Derived.SliceStrings
import Derived.Lib.SmallJoins
import Derived.Deep.Slices
import Derived.Deep.Fields
import Derived.ChangeSame
import Derived.Carry
import Derived.Test.YtmnhnighlgpjmaaGreatVSmallZ
namespace Go.Proofs.YtmnhnighlgpjmaaGreat
set_option linter.unusedVariables false
set_option linter.unusedSimpArgs false
open Go.ChangeShapes Go.WideShapes Go.RowKit Go.Joins Go.Deep

theorem laidOut : laidOutB Tryz.prog = true := by kernel_rfl
theorem cellsS : Tryz.prog.cellsOf 9 = 1 := by kernel_rfl
theorem cellsSS : Tryz.prog.cellsOf 27 = 1 := by kernel_rfl
theorem cellsVD : Tryz.prog.cellsOf 32 = 2 := by kernel_rfl

section
variable {H : Type} {enc' : TypeId × Value → H} {W : World}

theorem plain_at {a : Addr} {x : Value} (h : W.cell? (a.add 0) = some x) : ∃ b off, a = ⟨b, off, none⟩ ∧ b < W.heap.size := by
  obtain ⟨b, off, spot⟩ := a
  have hs : spot = none := by simpa [Addr.add] using World.cell?_spot h
  subst hs
  exact ⟨b, off, rfl, World.block_lt_of_cell? W _ h⟩
theorem row_strs {fuel : Nat} {cs : List Value} {x : DataW H × List MemPlace} (h : DataW.trod enc' Tryz.prog W 0 (fun _ => true) true fuel 27 cs = some x) :
    ∃ v ss, cs = [v] ∧ StrRow W W.heap.size v ss := by
  rcases open_strings Tryz.underlying27 Tryz.underlying9 cellsS h with ⟨hcs, _⟩ | ⟨a, len, cap, ss, hcs, _, hl, hm, hz, _, hcell, hwf⟩
  · exact ⟨_, [], hcs, srow_nil' _ _⟩
  · have hzl : len ≤ ss.length := by rw [hz]; simpa using hl
    have hln : ((ss.take len).map (·.data.toList)).length = len := by rw [List.length_map, List.length_take]; omega
    refine ⟨_, (ss.take len).map (·.data.toList), hcs, some a, cap, by rw [hln], by rw [hln]; exact hl, hm, (fun h => by cases h), fun h0 => ?_⟩
    have h1 : 0 < ss.length := by omega
    obtain ⟨b, off, rfl, hb⟩ := plain_at (hcell 0 h1)
    refine ⟨b, off, rfl, hb, fun k hk => ?_⟩
    have hk2 : k < len := by omega
    rw [← Go.WideShapes.add_plain, hcell k (by omega)]
    simp [List.getD_eq_getElem?_getD, show k < ss.length by omega, bs_data]
theorem some_at {α : Type} {ys : List α} {i n : Nat} (h : ys.length = n) (hi : i < n) : ∃ y, ys[i]? = some y := ⟨ys[i]'(by omega), List.getElem?_eq_getElem (by omega)⟩
set_option maxRecDepth 100000 in
theorem vd_of {fuel : Nat} {cs : List Value} {x : DataW H × List MemPlace} (h : DataW.trod enc' Tryz.prog W 0 (fun _ => true) true fuel 32 cs = some x) :
    ∃ (d : Vd) (u : Value), cs = [.string (bs d.nm), u] ∧ StrRow W W.heap.size u d.ps := by
  obtain ⟨ys, n, _, _, hlen, hyl, hf⟩ := DataW.trod_struct Tryz.underlying32 h
  rw [cellsVD] at hlen
  match cs, hlen with
  | [c0, c1], _ =>
    have h0 : DataW.trod enc' Tryz.prog W 0 (fun _ => true) true n 9 (([c0, c1].drop 0).take (Tryz.prog.cellsOf 9)) = ys[0]? := hf 0 _ rfl
    have h1 : DataW.trod enc' Tryz.prog W 0 (fun _ => true) true n 27 (([c0, c1].drop 1).take (Tryz.prog.cellsOf 27)) = ys[1]? := hf 1 _ rfl
    rw [cellsS] at h0; rw [cellsSS] at h1
    obtain ⟨y0, e0⟩ := some_at (i := 0) hyl (by decide)
    obtain ⟨y1, e1⟩ := some_at (i := 1) hyl (by decide)
    rw [e0] at h0; rw [e1] at h1
    obtain ⟨s, hs, _, _⟩ := DataW.trod_string Tryz.underlying9 h0
    obtain ⟨vT, ss, hT, hrT⟩ := row_strs h1
    have k0 : c0 = .string s := by simpa using hs
    have k1 : c1 = vT := by simpa using hT
    subst k0; subst k1
    exact ⟨⟨s.data.toList, ss⟩, _, by rw [bs_data], hrT⟩
set_option maxRecDepth 100000 in
theorem open_vd {v : Value} {d : DataW H} {p : List MemPlace} {b0 : Nat} {r : Reach} (hv : Value.okWide Tryz.prog W r b0 32 v) (h : DataW.Trod enc' Tryz.prog W 0 (fun _ => true) true 32 v d p) :
    ∃ (x : Vd) (u : Value), v = .agg #[.string (bs x.nm), u] ∧ StrRow W W.heap.size u x.ps := by
  obtain ⟨cs, rfl, hsz⟩ := okWide_struct Tryz.underlying32 hv
  obtain ⟨fuel, hf⟩ := h
  obtain ⟨x, u, hcs, ho⟩ := vd_of hf
  refine ⟨x, u, ?_, ho⟩
  have : cs.toList = [.string (bs x.nm), u] := by simpa [Value.cells] using hcs
  congr 1
  exact Array.ext' this
set_option maxRecDepth 100000 in
theorem open_vds {v : Value} {d : DataW H} {p : List MemPlace} {b0 : Nat} {r : Reach} (hv : Value.okWide Tryz.prog W r b0 22 v) (h : DataW.Trod enc' Tryz.prog W 0 (fun _ => true) true 22 v d p) :
    ∃ l : VL, VRow W W.heap.size v l := by
  obtain ⟨a0, len0, cap0, rfl⟩ := okWide_slice Tryz.underlying22 hv
  obtain ⟨fuel, hf⟩ := h
  rcases open_slice Tryz.underlying22 hf with ⟨hcs, _⟩ | ⟨a, len, cap, m, n, D, Pl, hcs, _, hl, hm, hmm, _, hi⟩
  · have e : Value.slice a0 len0 cap0 = .slice none 0 0 := by simpa [Value.cells] using hcs
    rw [e]
    exact ⟨[], none, 0, rfl, by simp, by decide, fun _ => rfl, fun h => by simp at h⟩
  · have e : Value.slice a0 len0 cap0 = .slice (some a) len cap := by simpa [Value.cells] using hcs
    rw [e]
    rw [cellsVD] at hi
    have hml : len ≤ m := by rw [hmm]; simpa using hl
    have each : ∀ i, i < len → ∃ (x : Vd) (u : Value), StrRow W W.heap.size u x.ps ∧ ∀ j, j < 2 → W.cell? ((a.add (i * 2)).add j) = [Value.string (bs x.nm), u][j]? := by
      intro i him
      obtain ⟨cs', hc, ht⟩ := hi i (by omega)
      obtain ⟨x, u, hcs', ho⟩ := vd_of ht
      obtain ⟨_, _, hat⟩ := World.cells?_some hc
      exact ⟨x, u, ho, fun j hj => by rw [hat j hj, hcs']⟩
    classical
    let f : Nat → Vd := fun i => if h : i < len then (each i h).choose else ⟨[], []⟩
    have hf' : ∀ i (h : i < len), ∃ u, StrRow W W.heap.size u (f i).ps ∧ ∀ j, j < 2 → W.cell? ((a.add (i * 2)).add j) = [Value.string (bs (f i).nm), u][j]? := by
      intro i h
      have := (each i h).choose_spec
      simp only [f, dif_pos h]
      exact this
    refine ⟨(List.range len).map f, some a, cap, by simp, by simpa using hl, hm, (fun h => by cases h), fun h0 => ?_⟩
    have h1 : 0 < len := by simpa using h0
    obtain ⟨u, _, hc⟩ := hf' 0 h1
    have hc0 := hc 0 (by omega)
    rw [Nat.zero_mul] at hc0
    have e0 : (a.add 0).add 0 = a.add 0 := by simp [Addr.add]
    rw [e0] at hc0
    obtain ⟨b, off, rfl, hb⟩ := plain_at hc0
    refine ⟨b, off, rfl, hb, fun k hk => ?_⟩
    have hkl : k < len := by simpa using hk
    obtain ⟨u, ho, hc⟩ := hf' k hkl
    have hx : ((List.range len).map f)[k] = f k := by simp
    rw [hx]
    have hadd : ∀ j, ((⟨b, off, none⟩ : Addr).add (k * 2)).add j = ⟨b, off + k * 2 + j, none⟩ := fun j => by rw [Go.WideShapes.add_plain, Go.WideShapes.add_plain]
    refine ⟨u, ?_, ?_, ho⟩
    · have := hc 0 (by omega); rw [hadd] at this; exact this
    · have := hc 1 (by omega); rw [hadd] at this; exact this
end
theorem str_of (a : ByteArray) : ∃ s : Str, bs s = a := ⟨a.data.toList, bs_data a⟩
end Go.Proofs.YtmnhnighlgpjmaaGreat

namespace Go.Proofs.YtmnhnighlgpjmaaGreat
set_option linter.unusedVariables false
set_option linter.unusedSimpArgs false
open Go.RowKit

theorem str_beq {a b : Str} (h : a ≠ b) : ((bs a).toList == (bs b).toList) = false := by
  cases e : ((bs a).toList == (bs b).toList) with
  | false => rfl
  | true => exact absurd (bs_inj (bytes_beq.1 e)) h
theorem svB_trans {l : VL} {a b c : Str} (h : svB l a b = true) (k : svB l b c = true) : svB l a c = true := svB_iff.2 ((svB_iff.1 h).trans (svB_iff.1 k))
theorem sv_anti {l : VL} (hl : l.length ≤ 900) (hr : rightV l = true) {a b : Str} (h : Sv l a b) (k : Sv l b a) : a = b := by
  obtain ⟨hg, hac⟩ := rightV_gr hl hr
  cases h with
  | refl => rfl
  | step h1 h2 =>
    obtain ⟨d, hd, hnm, hp, _⟩ := mem_pars h1
    exact absurd (h2.trans (by rw [hnm]; exact k)) (hac d hd _ hp)
theorem svB_anti {l : VL} (hl : l.length ≤ 900) (hr : rightV l = true) {a b : Str} (hab : a ≠ b) (h : svB l a b = true) : svB l b a = false := by
  cases e : svB l b a with
  | false => rfl
  | true => exact absurd (sv_anti hl hr (svB_iff.1 h) (svB_iff.1 e)) hab
end Go.Proofs.YtmnhnighlgpjmaaGreat
