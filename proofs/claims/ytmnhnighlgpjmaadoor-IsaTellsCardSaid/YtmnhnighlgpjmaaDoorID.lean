/-
  Package isa: rows of registers; the first registers; the registers in certain fields.
-/
import Derived.Test.YtmnhnighlgpjmaaDoorIB
namespace Go.Proofs.YtmnhnighlgpjmaaDoor
set_option linter.unusedVariables false
set_option linter.unusedSimpArgs false
open Go.RowKit

/-- A slice value that reads as these numbers. -/
def IRow (w : World) (v : Value) (l : List Nat) : Prop :=
  ∃ A cap, v = .slice A l.length cap ∧ l.length ≤ cap ∧ cap ≤ maxLen ∧ (0 < l.length → ∃ g, A = some ⟨g, 0, none⟩ ∧ g < w.heap.size ∧ ∀ i (h : i < l.length), w.cell? ⟨g, i, none⟩ = some (.int .i64 (l[i] : Nat)))
theorem IRow.keep {w w' : World} {v : Value} {l : List Nat} (h : IRow w v l) (hb : Below w.heap.size w w') : IRow w' v l := by
  obtain ⟨A, cap, hv, h1, h2, hA⟩ := h
  refine ⟨A, cap, hv, h1, h2, fun hp => ?_⟩
  obtain ⟨g, hg, hlt, hc⟩ := hA hp
  exact ⟨g, hg, Nat.lt_of_lt_of_le hlt hb.size, fun i hi => (hb.cell (p := ⟨g, i, none⟩) hlt).trans (hc i hi)⟩
theorem IRow.nil (w : World) : IRow w (.slice none 0 0) [] := ⟨none, 0, rfl, Nat.le_refl _, Nat.zero_le _, fun h => absurd h (by decide)⟩
def RowPost (l : List Nat) (w : World) (e : Ending) (w' : World) : Prop := ∃ v, e = .returned v ∧ IRow w' v l ∧ Below w.heap.size w w'

def firstV (n k : Nat) : Array Value := ((List.range n).map fun j => Value.int .i64 ((if j < k then j else 0 : Nat) : Int)).toArray
theorem firstV_at (n k j : Nat) (h : j < n) : (firstV n k)[j]? = some (.int .i64 ((if j < k then j else 0 : Nat) : Int)) := by
  simp [firstV, h]
theorem firstV_set (n k : Nat) (h : k < n) : (firstV n k).setIfInBounds k (.int .i64 (k : Nat)) = firstV n (k + 1) := by
  apply Array.ext_getElem?
  intro j
  by_cases hj : j < n
  · rw [firstV_at n (k + 1) j hj]
    by_cases e : j = k
    · subst e
      rw [Array.getElem?_setIfInBounds_self_of_lt (by simp [firstV]; omega), if_pos (by omega)]
    · rw [Array.getElem?_setIfInBounds_ne (Ne.symm e), firstV_at n k j hj]
      by_cases h2 : j < k
      · rw [if_pos h2, if_pos (by omega)]
      · rw [if_neg h2, if_neg (by omega)]
  · rw [Array.getElem?_eq_none (by simp [firstV]; omega), Array.getElem?_eq_none (by simp [firstV]; omega)]

theorem mkI0 (w : World) : (Instr.makeSlice 34 (.int .i64 (0 : Nat)) (.int .i64 (0 : Nat))).run Tryd.prog w = .ok (.slice (some ⟨w.heap.size, 0, none⟩) 0 0) (w.alloc (.cells (firstV 0 0) 3)) := by kernel_rfl
theorem mkI1 (w : World) : (Instr.makeSlice 34 (.int .i64 (1 : Nat)) (.int .i64 (1 : Nat))).run Tryd.prog w = .ok (.slice (some ⟨w.heap.size, 0, none⟩) 1 1) (w.alloc (.cells (firstV 1 0) 3)) := by kernel_rfl
theorem mkI2 (w : World) : (Instr.makeSlice 34 (.int .i64 (2 : Nat)) (.int .i64 (2 : Nat))).run Tryd.prog w = .ok (.slice (some ⟨w.heap.size, 0, none⟩) 2 2) (w.alloc (.cells (firstV 2 0) 3)) := by kernel_rfl
theorem mkI3 (w : World) : (Instr.makeSlice 34 (.int .i64 (3 : Nat)) (.int .i64 (3 : Nat))).run Tryd.prog w = .ok (.slice (some ⟨w.heap.size, 0, none⟩) 3 3) (w.alloc (.cells (firstV 3 0) 3)) := by kernel_rfl
theorem mkI (n : Nat) (h : n < 4) (w : World) : (Instr.makeSlice 34 (.int .i64 (n : Nat)) (.int .i64 (n : Nat))).run Tryd.prog w = .ok (.slice (some ⟨w.heap.size, 0, none⟩) n n) (w.alloc (.cells (firstV n 0) 3)) := by
  have : n = 0 ∨ n = 1 ∨ n = 2 ∨ n = 3 := by omega
  rcases this with rfl | rfl | rfl | rfl
  · exact mkI0 w
  · exact mkI1 w
  · exact mkI2 w
  · exact mkI3 w

set_option maxHeartbeats 1000000 in
theorem firstP (n : Nat) (w : World) (hn : n < 4) :
    Calls Tryd.prog 38 #[.int .i64 n] w (RowPost (List.range n) w) := by
  have hm := mkI n hn
  go_enter Tryd.func38, Tryd.ntmps38
  go_wp2_with fail
  go_loopw [9] (fun i wr => ∃ k : Nat, k ≤ n ∧ i = .int .i64 k ∧ wr.heap[w.heap.size]? = some (.cells (firstV n k) 3) ∧ Below w.heap.size w wr) (fun i _ => n - (intOf i).toNat)
  case atStart => exact ⟨0, by omega, rfl, block_new w _, below_new w _⟩
  case round =>
    obtain ⟨k, hk, rfl, hc, hB⟩ := hrel
    clear hm
    by_cases hlt : k < n
    · have o0 := (blk_cell hc k).trans (firstV_at n k k hlt)
      have f0 := blk_free hc
      have HC := Lib.hid hc
      have HB := Lib.hid hB
      clear hc hB
      go_wp2_with fail
      go_roundw
      case rel => exact ⟨k + 1, by omega, by go_num, by rw [setCell_block HC.out, firstV_set n k hlt], HB.out.setCell (Nat.le_refl _) _⟩
      case measure => simp [intOf]; omega
    · obtain rfl : k = n := by omega
      have HF : Hid (RowPost (List.range k) w (.returned (.slice (some ⟨w.heap.size, 0, none⟩) k k)) wr) := Lib.hid ⟨_, rfl, ⟨_, k, by rw [List.length_range], by simp, by unfold maxLen; omega, fun hp => ⟨w.heap.size, rfl, (Array.getElem?_eq_some_iff.1 hc).1, fun i hi => by
        rw [List.length_range] at hi
        rw [blk_cell hc i, firstV_at k k i hi, if_pos hi, List.getElem_range]⟩⟩, hB⟩
      clear hc hB
      go_wp2_with fail
      go_ret
      exact HF.out

/-- Whether a register is in one of the first k fields of a set, and in the set. -/
def usesK (i : Ins) (m k r : Nat) : Bool := (List.range k).any fun j => hasB m j && fldN i j == (r : Nat)
def usesB (i : Ins) (m r : Nat) : Bool := usesK i m 4 r || (hasB m 4 && r == 15)
def usedL (i : Ins) (m : Nat) : List Nat := (List.range 16).filter (usesB i m)
theorem usesK_no {i : Ins} {m k : Nat} (h : hasB m k = false) : usesK i m (k + 1) = usesK i m k := by
  funext r
  unfold usesK
  rw [List.range_succ, List.any_append]
  simp [h]
theorem usesK_yes {i : Ins} {m k n : Nat} (h : hasB m k = true) (hn : fldN i k = (n : Nat)) : usesK i m (k + 1) = fun r => usesK i m k r || r == n := by
  funext r
  unfold usesK
  rw [List.range_succ, List.any_append]
  simp only [List.any_cons, List.any_nil, h, hn, Bool.true_and, Bool.or_false]
  congr 1
  rw [Bool.eq_iff_iff]; simp; omega

def usesV (U : Nat → Bool) : Array Value := #[.bool (U 0), .bool (U 1), .bool (U 2), .bool (U 3), .bool (U 4), .bool (U 5), .bool (U 6), .bool (U 7), .bool (U 8), .bool (U 9), .bool (U 10), .bool (U 11), .bool (U 12), .bool (U 13), .bool (U 14), .bool (U 15)]
theorem lt16 {j : Nat} (h : j < 16) : j = 0 ∨ j = 1 ∨ j = 2 ∨ j = 3 ∨ j = 4 ∨ j = 5 ∨ j = 6 ∨ j = 7 ∨ j = 8 ∨ j = 9 ∨ j = 10 ∨ j = 11 ∨ j = 12 ∨ j = 13 ∨ j = 14 ∨ j = 15 := by omega
theorem usesV_at (U : Nat → Bool) (j : Nat) (h : j < 16) : (usesV U)[j]? = some (.bool (U j)) := by
  rcases lt16 h with rfl | rfl | rfl | rfl | rfl | rfl | rfl | rfl | rfl | rfl | rfl | rfl | rfl | rfl | rfl | rfl <;> rfl
theorem usesV_size (U : Nat → Bool) : (usesV U).size = 16 := rfl
theorem usesV_set (U : Nat → Bool) (n : Nat) (h : n < 16) : (usesV U).setIfInBounds n (.bool true) = usesV (fun r => U r || r == n) := by
  apply Array.ext_getElem?
  intro j
  by_cases hj : j < 16
  · rw [usesV_at _ j hj]
    by_cases e : j = n
    · subst e
      rw [Array.getElem?_setIfInBounds_self_of_lt (by rw [usesV_size]; omega)]; simp
    · rw [Array.getElem?_setIfInBounds_ne (Ne.symm e), usesV_at U j hj]
      simp [e]
  · rw [Array.getElem?_eq_none (by rw [Array.size_setIfInBounds, usesV_size]; omega), Array.getElem?_eq_none (by rw [usesV_size]; omega)]
theorem idx_aggB {t e : TypeId} {n : Nat} (ht : Tryd.prog.underlying t = some (.array n e)) (he : Tryd.prog.underlying e = some .bool) (hi : (Tryd.prog.info? e).map (·.size) = some 1)
    (cs : Array Value) (k : Nat) (hk : k < n) (v : Value) (hv : cs[k]? = some v) (w : World) : (Instr.index t (.agg cs) (.int .i64 (k : Int))).run Tryd.prog w = .ok v w := by
  cases hq : Tryd.prog.info? e with
  | none => simp [hq] at hi
  | some i =>
    have hs : i.size = 1 := by simpa [hq] using hi
    have h1 : (0 : Int) ≤ (k : Int) ∧ (k : Int) < (n : Int) := by omega
    simp [Instr.index, asIntOf, run_underlying ht, isAgg, run_underlying he, part, sizeOf, typeInfo, hq, hs, hk, hv]
theorem idx16 (U : Nat → Bool) (k : Nat) (hk : k < 16) (w : World) : (Instr.index 91 (.agg (usesV U)) (.int .i64 (k : Int))).run Tryd.prog w = .ok (.bool (U k)) w :=
  idx_aggB Tryd.underlying91 Tryd.underlying4 (by kernel_rfl) _ k hk _ (usesV_at U k hk) w
end Go.Proofs.YtmnhnighlgpjmaaDoor
