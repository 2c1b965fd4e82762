/-
  The walk of IsaUses: up to the checks of the lists.
-/
import Derived.Test.YtijcdhkojidgeaaDoorIS
import Derived.Test.YtijcdhkojidgeaaDoorII
import Derived.Test.YtijcdhkojidgeaaDoorIL
namespace Go.Proofs.YtijcdhkojidgeaaDoor.isaUses
set_option linter.unusedVariables false
set_option linter.unusedSimpArgs false
open Go.RowKit

theorem bdN {B : Nat} {a w : World} (h : Below B a w) (n : Nat) : Below B a (w.drewN n) := ⟨h.os, h.tape, h.output, h.size, h.block⟩
theorem opdL_has : ∀ o, o < 31 → (opdL o).contains 1 = hasB (opsN o) 0 ∧ (opdL o).contains 2 = hasB (opsN o) 1 ∧ (opdL o).contains 3 = hasB (opsN o) 2 := by decide +kernel
def Goal (w : World) (e : Ending) (w' : World) : Prop := e = .returned (.bool true) ∧ Below w.heap.size w w'

set_option maxRecDepth 100000 in
set_option maxHeartbeats 4000000 in
theorem noP (o a b c m x y : Int) (w : World) (hL : LaidI w) (hi : rightB ⟨o, a, b, c, m⟩ = false) :
    Calls Tryd.prog 7 #[.agg #[.int .i64 o, .int .i64 a, .int .i64 b, .int .i64 c, .int .i64 m], .int .i64 x, .int .i64 y] w (Goal w) := by
  have K0 := Lib.hid ((Kp.mk hL (Below.refl _ _)).alloc (.cells #[.int .i64 o, .int .i64 a, .int .i64 b, .int .i64 c, .int .i64 m] 23))
  have P0 := Lib.hid (block_new w (.cells #[.int .i64 o, .int .i64 a, .int .i64 b, .int .i64 c, .int .i64 m] 23))
  have KS := Lib.hid (smallP _ K0.out.laid)
  have HU := Lib.hid (fun W (h : LaidI W) => usesP o a b c m W h)
  have HR := Lib.hid (fun W h => rightP o a b c m W h)
  rw [(uses_no hi).1, (uses_no hi).2] at HU
  rw [hi] at HR
  clear hL hi
  go_enter Tryd.func7, Tryd.ntmps7
  go_wp2_with fail
  refine KS.out.mono ?_; rintro e w1 ⟨rfl, hb⟩
  have K1 := Lib.hid (K0.out.call hb)
  have P1 := Lib.hid (blkKeep P0.out hb)
  clear hb
  have p0 : w1.cell? ⟨w.heap.size, 0, none⟩ = some (.int .i64 o) := blk_cell P1.out 0
  have p1 : w1.cell? ⟨w.heap.size, 1, none⟩ = some (.int .i64 a) := blk_cell P1.out 1
  have p2 : w1.cell? ⟨w.heap.size, 2, none⟩ = some (.int .i64 b) := blk_cell P1.out 2
  have p3 : w1.cell? ⟨w.heap.size, 3, none⟩ = some (.int .i64 c) := blk_cell P1.out 3
  have p4 : w1.cell? ⟨w.heap.size, 4, none⟩ = some (.int .i64 m) := blk_cell P1.out 4
  go_wp2_with fail
  refine (HU.out _ K1.out.laid).mono ?_; rintro e w2 ⟨u, v, rfl, hu, hv, hb⟩
  have K2 := Lib.hid (K1.out.call hb)
  have P2 := Lib.hid (blkKeep P1.out hb)
  obtain ⟨A, ca, rfl, _⟩ := hu
  obtain ⟨B, cb, rfl, _⟩ := hv
  clear hb p0 p1 p2 p3 p4
  have p0 : w2.cell? ⟨w.heap.size, 0, none⟩ = some (.int .i64 o) := blk_cell P2.out 0
  have p1 : w2.cell? ⟨w.heap.size, 1, none⟩ = some (.int .i64 a) := blk_cell P2.out 1
  have p2 : w2.cell? ⟨w.heap.size, 2, none⟩ = some (.int .i64 b) := blk_cell P2.out 2
  have p3 : w2.cell? ⟨w.heap.size, 3, none⟩ = some (.int .i64 c) := blk_cell P2.out 3
  have p4 : w2.cell? ⟨w.heap.size, 4, none⟩ = some (.int .i64 m) := blk_cell P2.out 4
  go_wp2_with fail
  refine (HR.out _ K2.out.laid.forms).mono ?_; rintro e w3 ⟨rfl, hb⟩
  have HF : Hid (Goal w (.returned (.bool true)) w3) := Lib.hid ⟨rfl, (K2.out.call hb).below⟩
  clear hb p0 p1 p2 p3 p4
  go_wp2_with fail
  go_ret
  exact HF.out

theorem list_ok {R V : List Nat} (h1 : RegsOk R 3) (h2 : RegsOk V 2) : ∀ k (hk : k < (R ++ V).length), (R ++ V)[k] ≤ 15 ∧ ∀ j (hj : j < (R ++ V).length), k = j + 1 → k ≠ R.length → (R ++ V)[j] < (R ++ V)[k] := by
  intro k hk
  refine ⟨?_, fun j hj e hne => ?_⟩
  · rcases List.mem_append.1 (List.getElem_mem hk) with h | h
    · exact h1.small _ h
    · exact h2.small _ h
  · rw [List.length_append] at hk hj
    by_cases hk1 : k < R.length
    · rw [List.getElem_append_left (by omega), List.getElem_append_left hk1]
      exact List.pairwise_iff_getElem.1 h1.sorted j k (by omega) hk1 (by omega)
    · rw [List.getElem_append_right (by omega), List.getElem_append_right (by omega)]
      exact List.pairwise_iff_getElem.1 h2.sorted _ _ (by omega) (by omega) (by omega)
/-- What is known when the lists are joined. -/
structure St (w : World) (i : Ins) (x y : Int) (R W : List Nat) (W' : World) : Prop where
  kp : Kp w W'
  blk : W'.heap[w.heap.size]? = some (.cells #[.int .i64 i.op, .int .i64 i.a, .int .i64 i.b, .int .i64 i.c, .int .i64 i.m] 23)
end Go.Proofs.YtijcdhkojidgeaaDoor.isaUses
