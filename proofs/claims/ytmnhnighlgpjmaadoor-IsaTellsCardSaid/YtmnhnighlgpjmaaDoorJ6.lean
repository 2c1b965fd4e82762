/-
  The reference of isa: set.
-/
import Derived.Test.YtmnhnighlgpjmaaDoorJ5
namespace Go.Proofs.YtmnhnighlgpjmaaDoor
set_option linter.unusedVariables false
set_option linter.unusedSimpArgs false
open Go.RowKit

set_option maxRecDepth 100000 in
theorem rSet1 (o a b c m n : Int) (w : World) :
    Calls Tryd.prog 27 #[.agg #[.int .i64 o, .int .i64 a, .int .i64 b, .int .i64 c, .int .i64 m], .int .i64 1, .int .i64 n] w fun e w' => e = .returned (.agg #[.int .i64 o, .int .i64 n, .int .i64 b, .int .i64 c, .int .i64 m]) ∧ Below w.heap.size w w' := by
  have hr := two_snd w (.cells #[.int .i64 o, .int .i64 n, .int .i64 b, .int .i64 c, .int .i64 m] 23) (.cells #[.int .i64 o, .int .i64 n, .int .i64 b, .int .i64 c, .int .i64 m] 23)
  have HB := Lib.hid (((Below.refl w.heap.size w).alloc (Nat.le_refl _) (.cells #[.int .i64 o, .int .i64 n, .int .i64 b, .int .i64 c, .int .i64 m] 23)).alloc ((Below.refl w.heap.size w).alloc (Nat.le_refl _) (.cells #[.int .i64 o, .int .i64 n, .int .i64 b, .int .i64 c, .int .i64 m] 23)).size (.cells #[.int .i64 o, .int .i64 n, .int .i64 b, .int .i64 c, .int .i64 m] 23))
  have r0 := blk_cell hr 0
  have r1 := blk_cell hr 1
  have r2 := blk_cell hr 2
  have r3 := blk_cell hr 3
  have r4 := blk_cell hr 4
  have H0 := Lib.hid r0
  have H1 := Lib.hid r1
  have H2 := Lib.hid r2
  have H3 := Lib.hid r3
  have H4 := Lib.hid r4
  clear hr r0 r1 r2 r3 r4
  go_enter Tryd.func27, Tryd.ntmps27
  go_wp2_with fail
  have r0 := H0.out
  have r1 := H1.out
  have r2 := H2.out
  have r3 := H3.out
  have r4 := H4.out
  refine bodyPost_ret (v := .agg #[.int .i64 o, .int .i64 n, .int .i64 b, .int .i64 c, .int .i64 m]) (by simp [results, Tryd.results27, go_sem, r0, r1, r2, r3, r4]) rfl ⟨rfl, HB.out⟩

set_option maxRecDepth 100000 in
theorem rSet2 (o a b c m n : Int) (w : World) :
    Calls Tryd.prog 27 #[.agg #[.int .i64 o, .int .i64 a, .int .i64 b, .int .i64 c, .int .i64 m], .int .i64 2, .int .i64 n] w fun e w' => e = .returned (.agg #[.int .i64 o, .int .i64 a, .int .i64 n, .int .i64 c, .int .i64 m]) ∧ Below w.heap.size w w' := by
  have hr := two_snd w (.cells #[.int .i64 o, .int .i64 a, .int .i64 n, .int .i64 c, .int .i64 m] 23) (.cells #[.int .i64 o, .int .i64 a, .int .i64 n, .int .i64 c, .int .i64 m] 23)
  have HB := Lib.hid (((Below.refl w.heap.size w).alloc (Nat.le_refl _) (.cells #[.int .i64 o, .int .i64 a, .int .i64 n, .int .i64 c, .int .i64 m] 23)).alloc ((Below.refl w.heap.size w).alloc (Nat.le_refl _) (.cells #[.int .i64 o, .int .i64 a, .int .i64 n, .int .i64 c, .int .i64 m] 23)).size (.cells #[.int .i64 o, .int .i64 a, .int .i64 n, .int .i64 c, .int .i64 m] 23))
  have r0 := blk_cell hr 0
  have r1 := blk_cell hr 1
  have r2 := blk_cell hr 2
  have r3 := blk_cell hr 3
  have r4 := blk_cell hr 4
  have H0 := Lib.hid r0
  have H1 := Lib.hid r1
  have H2 := Lib.hid r2
  have H3 := Lib.hid r3
  have H4 := Lib.hid r4
  clear hr r0 r1 r2 r3 r4
  go_enter Tryd.func27, Tryd.ntmps27
  go_wp2_with fail
  have r0 := H0.out
  have r1 := H1.out
  have r2 := H2.out
  have r3 := H3.out
  have r4 := H4.out
  refine bodyPost_ret (v := .agg #[.int .i64 o, .int .i64 a, .int .i64 n, .int .i64 c, .int .i64 m]) (by simp [results, Tryd.results27, go_sem, r0, r1, r2, r3, r4]) rfl ⟨rfl, HB.out⟩

set_option maxRecDepth 100000 in
theorem rSet3 (o a b c m n : Int) (w : World) :
    Calls Tryd.prog 27 #[.agg #[.int .i64 o, .int .i64 a, .int .i64 b, .int .i64 c, .int .i64 m], .int .i64 3, .int .i64 n] w fun e w' => e = .returned (.agg #[.int .i64 o, .int .i64 a, .int .i64 b, .int .i64 n, .int .i64 m]) ∧ Below w.heap.size w w' := by
  have hr := two_snd w (.cells #[.int .i64 o, .int .i64 a, .int .i64 b, .int .i64 n, .int .i64 m] 23) (.cells #[.int .i64 o, .int .i64 a, .int .i64 b, .int .i64 n, .int .i64 m] 23)
  have HB := Lib.hid (((Below.refl w.heap.size w).alloc (Nat.le_refl _) (.cells #[.int .i64 o, .int .i64 a, .int .i64 b, .int .i64 n, .int .i64 m] 23)).alloc ((Below.refl w.heap.size w).alloc (Nat.le_refl _) (.cells #[.int .i64 o, .int .i64 a, .int .i64 b, .int .i64 n, .int .i64 m] 23)).size (.cells #[.int .i64 o, .int .i64 a, .int .i64 b, .int .i64 n, .int .i64 m] 23))
  have r0 := blk_cell hr 0
  have r1 := blk_cell hr 1
  have r2 := blk_cell hr 2
  have r3 := blk_cell hr 3
  have r4 := blk_cell hr 4
  have H0 := Lib.hid r0
  have H1 := Lib.hid r1
  have H2 := Lib.hid r2
  have H3 := Lib.hid r3
  have H4 := Lib.hid r4
  clear hr r0 r1 r2 r3 r4
  go_enter Tryd.func27, Tryd.ntmps27
  go_wp2_with fail
  have r0 := H0.out
  have r1 := H1.out
  have r2 := H2.out
  have r3 := H3.out
  have r4 := H4.out
  refine bodyPost_ret (v := .agg #[.int .i64 o, .int .i64 a, .int .i64 b, .int .i64 n, .int .i64 m]) (by simp [results, Tryd.results27, go_sem, r0, r1, r2, r3, r4]) rfl ⟨rfl, HB.out⟩

set_option maxRecDepth 100000 in
theorem rSet4 (o a b c m n : Int) (w : World) :
    Calls Tryd.prog 27 #[.agg #[.int .i64 o, .int .i64 a, .int .i64 b, .int .i64 c, .int .i64 m], .int .i64 4, .int .i64 n] w fun e w' => e = .returned (.agg #[.int .i64 o, .int .i64 a, .int .i64 b, .int .i64 c, .int .i64 n]) ∧ Below w.heap.size w w' := by
  have hr := two_snd w (.cells #[.int .i64 o, .int .i64 a, .int .i64 b, .int .i64 c, .int .i64 n] 23) (.cells #[.int .i64 o, .int .i64 a, .int .i64 b, .int .i64 c, .int .i64 n] 23)
  have HB := Lib.hid (((Below.refl w.heap.size w).alloc (Nat.le_refl _) (.cells #[.int .i64 o, .int .i64 a, .int .i64 b, .int .i64 c, .int .i64 n] 23)).alloc ((Below.refl w.heap.size w).alloc (Nat.le_refl _) (.cells #[.int .i64 o, .int .i64 a, .int .i64 b, .int .i64 c, .int .i64 n] 23)).size (.cells #[.int .i64 o, .int .i64 a, .int .i64 b, .int .i64 c, .int .i64 n] 23))
  have r0 := blk_cell hr 0
  have r1 := blk_cell hr 1
  have r2 := blk_cell hr 2
  have r3 := blk_cell hr 3
  have r4 := blk_cell hr 4
  have H0 := Lib.hid r0
  have H1 := Lib.hid r1
  have H2 := Lib.hid r2
  have H3 := Lib.hid r3
  have H4 := Lib.hid r4
  clear hr r0 r1 r2 r3 r4
  go_enter Tryd.func27, Tryd.ntmps27
  go_wp2_with fail
  have r0 := H0.out
  have r1 := H1.out
  have r2 := H2.out
  have r3 := H3.out
  have r4 := H4.out
  refine bodyPost_ret (v := .agg #[.int .i64 o, .int .i64 a, .int .i64 b, .int .i64 c, .int .i64 n]) (by simp [results, Tryd.results27, go_sem, r0, r1, r2, r3, r4]) rfl ⟨rfl, HB.out⟩

theorem rSetP (o a b c m n : Int) (k : Nat) (w : World) (hk : k < 4) :
    Calls Tryd.prog 27 #[.agg #[.int .i64 o, .int .i64 a, .int .i64 b, .int .i64 c, .int .i64 m], .int .i64 ((k + 1 : Nat) : Int), .int .i64 n] w fun e w' => e = .returned (insV (setF ⟨o, a, b, c, m⟩ k n)) ∧ Below w.heap.size w w' := by
  have hc : k = 0 ∨ k = 1 ∨ k = 2 ∨ k = 3 := by omega
  rcases hc with rfl | rfl | rfl | rfl
  · exact rSet1 o a b c m n w
  · exact rSet2 o a b c m n w
  · exact rSet3 o a b c m n w
  · exact rSet4 o a b c m n w
end Go.Proofs.YtmnhnighlgpjmaaDoor
