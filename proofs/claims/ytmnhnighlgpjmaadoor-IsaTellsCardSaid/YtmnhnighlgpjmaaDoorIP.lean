/-
  The reference's operands; whether a list has a number; the law's exchange of two registers.
-/
import Derived.Test.YtmnhnighlgpjmaaDoorIH
namespace Go.Proofs.YtmnhnighlgpjmaaDoor
set_option linter.unusedVariables false
set_option linter.unusedSimpArgs false
open Go.RowKit

/-- The operands of an Op: 1 A, 2 B, 3 C, 4 Imm. -/
def opdL (o : Nat) : List Nat := ((List.range 4).filter (hasB (opsN o))).map (· + 1)

theorem row0 (W : World) : IRow W (.slice none 0 0) [] := IRow.nil W
theorem row3 (W : World) (x y z : Nat) (t : TypeId) : IRow (W.alloc (.cells #[.int .i64 (x : Nat), .int .i64 (y : Nat), .int .i64 (z : Nat)] t)) (.slice (some ⟨W.heap.size, 0, none⟩) 3 3) [x, y, z] :=
  ⟨_, 3, rfl, Nat.le_refl _, by decide, fun _ => ⟨W.heap.size, rfl, by simp, fun i hi => by
    have : i = 0 ∨ i = 1 ∨ i = 2 := by simp at hi; omega
    rcases this with rfl | rfl | rfl
    · exact alloc_cell _ _ _ _
    · exact alloc_cell _ _ _ _
    · exact alloc_cell _ _ _ _⟩⟩

theorem rowPostNil (w : World) : RowPost [] w (.returned (.slice none 0 0)) w := ⟨_, rfl, IRow.nil w, Below.refl _ _⟩
theorem rowPost1 (w : World) (x : Nat) : RowPost [x] w (.returned (.slice (some ⟨w.heap.size, 0, none⟩) 1 1)) (w.alloc (.cells #[.int .i64 (x : Nat)] 3)) := ⟨_, rfl, row1 w x _, below_new w _⟩
theorem rowPost2 (w : World) (x y : Nat) : RowPost [x, y] w (.returned (.slice (some ⟨w.heap.size, 0, none⟩) 2 2)) (w.alloc (.cells #[.int .i64 (x : Nat), .int .i64 (y : Nat)] 3)) := ⟨_, rfl, row2 w x y _, below_new w _⟩
theorem rowPost3 (w : World) (x y z : Nat) : RowPost [x, y, z] w (.returned (.slice (some ⟨w.heap.size, 0, none⟩) 3 3)) (w.alloc (.cells #[.int .i64 (x : Nat), .int .i64 (y : Nat), .int .i64 (z : Nat)] 3)) := ⟨_, rfl, row3 w x y z _, below_new w _⟩

set_option maxRecDepth 100000 in
theorem operandsP0 (o : Nat) (w : World) (h : opdL o = [] ∧ (o = 1 ∨ o = 2 ∨ o = 26)) : Calls Tryd.prog 25 #[.int .i64 o] w (RowPost (opdL o) w) := by
  obtain ⟨h1, h2⟩ := h
  rw [h1]
  clear h1
  rcases h2 with rfl | rfl | rfl
  all_goals
    have HF := Lib.hid (rowPostNil w)
    go_enter Tryd.func25, Tryd.ntmps25
    go_wp2_with fail
    go_ret
    exact HF.out

set_option maxRecDepth 100000 in
set_option maxHeartbeats 1000000 in
theorem operandsP_14 (o : Nat) (w : World) (h2 : o = 3 ∨ o = 4 ∨ o = 14 ∨ o = 20 ∨ o = 21) : Calls Tryd.prog 25 #[.int .i64 o] w (RowPost [1, 4] w) := by
  rcases h2 with rfl | rfl | rfl | rfl | rfl
  all_goals
    have HF := Lib.hid (rowPost2 w 1 4)
    go_enter Tryd.func25, Tryd.ntmps25
    go_wp2_with fail
    go_ret
    exact HF.out

set_option maxRecDepth 100000 in
set_option maxHeartbeats 1000000 in
theorem operandsP_12 (o : Nat) (w : World) (h2 : o = 5 ∨ o = 29) : Calls Tryd.prog 25 #[.int .i64 o] w (RowPost [1, 2] w) := by
  rcases h2 with rfl | rfl
  all_goals
    have HF := Lib.hid (rowPost2 w 1 2)
    go_enter Tryd.func25, Tryd.ntmps25
    go_wp2_with fail
    go_ret
    exact HF.out

set_option maxRecDepth 100000 in
set_option maxHeartbeats 1000000 in
theorem operandsP_123 (o : Nat) (w : World) (h2 : o = 6 ∨ o = 7 ∨ o = 8 ∨ o = 9 ∨ o = 10 ∨ o = 11 ∨ o = 12) : Calls Tryd.prog 25 #[.int .i64 o] w (RowPost [1, 2, 3] w) := by
  rcases h2 with rfl | rfl | rfl | rfl | rfl | rfl | rfl
  all_goals
    have HF := Lib.hid (rowPost3 w 1 2 3)
    go_enter Tryd.func25, Tryd.ntmps25
    go_wp2_with fail
    go_ret
    exact HF.out

set_option maxRecDepth 100000 in
set_option maxHeartbeats 1000000 in
theorem operandsP_124 (o : Nat) (w : World) (h2 : o = 13 ∨ o = 15 ∨ o = 16 ∨ o = 17 ∨ o = 18) : Calls Tryd.prog 25 #[.int .i64 o] w (RowPost [1, 2, 4] w) := by
  rcases h2 with rfl | rfl | rfl | rfl | rfl
  all_goals
    have HF := Lib.hid (rowPost3 w 1 2 4)
    go_enter Tryd.func25, Tryd.ntmps25
    go_wp2_with fail
    go_ret
    exact HF.out

set_option maxRecDepth 100000 in
set_option maxHeartbeats 1000000 in
theorem operandsP_4 (o : Nat) (w : World) (h2 : o = 19 ∨ o = 22 ∨ o = 24 ∨ o = 25 ∨ o = 30) : Calls Tryd.prog 25 #[.int .i64 o] w (RowPost [4] w) := by
  rcases h2 with rfl | rfl | rfl | rfl | rfl
  all_goals
    have HF := Lib.hid (rowPost1 w 4)
    go_enter Tryd.func25, Tryd.ntmps25
    go_wp2_with fail
    go_ret
    exact HF.out

set_option maxRecDepth 100000 in
set_option maxHeartbeats 1000000 in
theorem operandsP_1 (o : Nat) (w : World) (h2 : o = 23 ∨ o = 27 ∨ o = 28) : Calls Tryd.prog 25 #[.int .i64 o] w (RowPost [1] w) := by
  rcases h2 with rfl | rfl | rfl
  all_goals
    have HF := Lib.hid (rowPost1 w 1)
    go_enter Tryd.func25, Tryd.ntmps25
    go_wp2_with fail
    go_ret
    exact HF.out

theorem operandsP (o : Nat) (w : World) (h1 : 1 ≤ o) (h2 : o ≤ 30) : Calls Tryd.prog 25 #[.int .i64 o] w (RowPost (opdL o) w) := by
  have hc : (o = 1 ∨ o = 2 ∨ o = 26) ∨ (o = 3 ∨ o = 4 ∨ o = 14 ∨ o = 20 ∨ o = 21) ∨ (o = 5 ∨ o = 29) ∨ (o = 6 ∨ o = 7 ∨ o = 8 ∨ o = 9 ∨ o = 10 ∨ o = 11 ∨ o = 12) ∨ (o = 13 ∨ o = 15 ∨ o = 16 ∨ o = 17 ∨ o = 18) ∨ (o = 19 ∨ o = 22 ∨ o = 24 ∨ o = 25 ∨ o = 30) ∨ (o = 23 ∨ o = 27 ∨ o = 28) := by omega
  rcases hc with h | h | h | h | h | h | h
  · exact operandsP0 o w ⟨by rcases h with rfl | rfl | rfl <;> decide, h⟩
  · rw [show opdL o = [1, 4] by rcases h with rfl | rfl | rfl | rfl | rfl <;> decide]
    exact operandsP_14 o w h
  · rw [show opdL o = [1, 2] by rcases h with rfl | rfl <;> decide]
    exact operandsP_12 o w h
  · rw [show opdL o = [1, 2, 3] by rcases h with rfl | rfl | rfl | rfl | rfl | rfl | rfl <;> decide]
    exact operandsP_123 o w h
  · rw [show opdL o = [1, 2, 4] by rcases h with rfl | rfl | rfl | rfl | rfl <;> decide]
    exact operandsP_124 o w h
  · rw [show opdL o = [4] by rcases h with rfl | rfl | rfl | rfl | rfl <;> decide]
    exact operandsP_4 o w h
  · rw [show opdL o = [1] by rcases h with rfl | rfl | rfl <;> decide]
    exact operandsP_1 o w h
end Go.Proofs.YtmnhnighlgpjmaaDoor
