/-
  What the program's two tables hold, and that it stays so; an array by value, indexed.
-/
import Derived.Test.YtcekmedfphmpcaaDoorState
namespace Go.Proofs.YtcekmedfphmpcaaDoor
set_option linter.unusedVariables false
set_option linter.unusedSimpArgs false
open Go.RowKit

def rotV : Array Value := (turns.map fun n => Value.int .i64 (n : Nat)).toArray
def conV : Array Value := (uv consts).toArray
/-- The tables hold what they hold from the start. -/
def Laid (w : World) : Prop := (∃ t fr, w.heap[2]? = some (.cells rotV t fr)) ∧ (∃ t fr, w.heap[0]? = some (.cells conV t fr))
theorem Laid.lt {w : World} (h : Laid w) : 2 < w.heap.size ∧ 0 < w.heap.size := by
  obtain ⟨⟨_, _, h1⟩, ⟨_, _, h2⟩⟩ := h
  exact ⟨(Array.getElem?_eq_some_iff.1 h1).1, (Array.getElem?_eq_some_iff.1 h2).1⟩
theorem Laid.keep {w w' : World} (h : Laid w) (hb : Below w.heap.size w w') : Laid w' := by
  have hl := h.lt
  obtain ⟨⟨t, fr, h1⟩, ⟨t', fr', h2⟩⟩ := h
  exact ⟨⟨t, fr, (hb.block _ hl.1).trans h1⟩, ⟨t', fr', (hb.block _ hl.2).trans h2⟩⟩
theorem Laid.grown {w w' : World} {g : Nat} (h : Laid w) (hb : w.grownBy w' (some g)) (hg : g ≠ 2 ∧ g ≠ 0) : Laid w' := by
  have hl := h.lt
  obtain ⟨⟨t, fr, h1⟩, ⟨t', fr', h2⟩⟩ := h
  refine ⟨⟨t, fr, (hb.block _ hl.1 ?_).trans h1⟩, ⟨t', fr', (hb.block _ hl.2 ?_).trans h2⟩⟩
  · intro e; injection e with e; exact hg.1 e.symm
  · intro e; injection e with e; exact hg.2 e.symm
theorem Laid.drew {w : World} (h : Laid w) : Laid w.drew := h
theorem Laid.apart {w : World} (h : Laid w) {g : Nat} (hg : w.heap.size ≤ g) : g ≠ 2 ∧ g ≠ 0 := by
  have := h.lt
  omega

theorem rotV_at (k : Nat) (h : k < 25) : rotV[k]? = some (.int .i64 (lat turns k : Nat)) := by
  have : ∀ k, k < 25 → rotV[k]? = some (.int .i64 (lat turns k : Nat)) := by
    intro k hk
    have h2 : k < turns.length := hk
    unfold rotV
    rw [List.getElem?_toArray]
    simp [lat, List.getD_eq_getElem?_getD, h2]
  exact this k h
theorem conV_at (k : Nat) (h : k < 24) : conV[k]? = some (.int .u64 (lat consts k : Nat)) := by
  unfold conV
  rw [List.getElem?_toArray]
  exact uv_at consts k h

theorem idx_agg {t e : TypeId} {n : Nat} {ik : IntKind} (ht : Tryd.prog.underlying t = some (.array n e)) (he : Tryd.prog.underlying e = some (.int ik)) (hi : (Tryd.prog.info? e).map (·.size) = some 1)
    (cs : Array Value) (k : Nat) (hk : k < n) (v : Value) (hv : cs[k]? = some v) (w : World) : (Instr.index t (.agg cs) (.int .i64 (k : Int))).run Tryd.prog w = .ok v w := by
  cases hq : Tryd.prog.info? e with
  | none => simp [hq] at hi
  | some i =>
    have hs : i.size = 1 := by simpa [hq] using hi
    have h1 : (0 : Int) ≤ (k : Int) ∧ (k : Int) < (n : Int) := by omega
    simp [Instr.index, asIntOf, run_underlying ht, isAgg, run_underlying he, part, sizeOf, typeInfo, hq, hs, hk, hv]
theorem rot_idx (k : Nat) (h : k < 25) (w : World) : (Instr.index 55 (.agg rotV) (.int .i64 (k : Int))).run Tryd.prog w = .ok (.int .i64 (lat turns k : Nat)) w :=
  idx_agg Tryd.underlying55 Tryd.underlying3 (by kernel_rfl) rotV k h _ (rotV_at k h) w
theorem con_idx (k : Nat) (h : k < 24) (w : World) : (Instr.index 50 (.agg conV) (.int .i64 (k : Int))).run Tryd.prog w = .ok (.int .u64 (lat consts k : Nat)) w :=
  idx_agg Tryd.underlying50 Tryd.underlying36 (by kernel_rfl) conV k h _ (conV_at k h) w
end Go.Proofs.YtcekmedfphmpcaaDoor
