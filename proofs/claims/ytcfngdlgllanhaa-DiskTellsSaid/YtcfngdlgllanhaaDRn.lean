/-
  The reference of layer 6: New.
-/
import Derived.Test.YtcfngdlgllanhaaDRc
namespace Go.Proofs.Ytcfngdlgllanhaa
set_option linter.unusedVariables false
set_option linter.unusedSimpArgs false
open Go.RowKit

def RNew (w : World) (s : Dk) (e : Ending) (w2 : World) : Prop := ∃ c, e = .returned (.pointer (some ⟨c, 0, none⟩)) ∧ RefAt (fun k => w.heap.size ≤ k ∧ k < w2.heap.size) w2 c s ∧ Below w.heap.size w w2
set_option maxRecDepth 100000 in
set_option maxHeartbeats 4000000 in
theorem newR (w : World) : Calls Try.prog 8 #[] w (RNew w dk0) := by
  have hm8 := mkStr8
  go_enter Try.func8, Try.ntmps8
  go_wp2_with fail
  go_ret
  have hb0 := below_new w (.cells #[.string { data := #[] }, .string { data := #[] }, .string { data := #[] }, .string { data := #[] }, .string { data := #[] }, .string { data := #[] }, .string { data := #[] }, .string { data := #[] }] 9)
  refine ⟨w.heap.size + 1, rfl, ⟨.slice (some ⟨w.heap.size, 0, none⟩) 8 8, .slice none 0 0, .slice none 0 0, ⟨?_, World.ownsRow.alloc ⟨rfl, .inr ⟨w.heap.size, 8, _, rfl, Nat.zero_le _, heap_alloc_new w _, Nat.le_refl _, by decide, rfl, rfl⟩⟩ _, World.ownsRow_nil _ _ _ _, World.ownsRow_nil _ _ _ _, dk0_ok⟩, ⟨⟨by omega, by simp⟩, fun k hk => ?_, fun k hk => by simp [Value.ownBlock] at hk, fun k hk => by simp [Value.ownBlock] at hk⟩⟩, hb0.trans ((below_new _ _).mono (by simp))⟩
  · have := Blk.new (w.alloc (.cells #[.string { data := #[] }, .string { data := #[] }, .string { data := #[] }, .string { data := #[] }, .string { data := #[] }, .string { data := #[] }, .string { data := #[] }, .string { data := #[] }] 9)) 56 (rcells (.slice (some ⟨w.heap.size, 0, none⟩) 8 8) (.slice none 0 0) (.slice none 0 0) dk0)
    rw [show (w.alloc (.cells #[.string { data := #[] }, .string { data := #[] }, .string { data := #[] }, .string { data := #[] }, .string { data := #[] }, .string { data := #[] }, .string { data := #[] }, .string { data := #[] }] 9)).heap.size = w.heap.size + 1 by simp] at this
    exact this
  · simp [Value.ownBlock] at hk
    subst hk
    exact ⟨Nat.le_refl _, by simp; omega⟩
end Go.Proofs.Ytcfngdlgllanhaa
