/-
  The law's small: the examples of the document stand.
-/
import Derived.Test.YtmnhnighlgpjmaaDoorIH
namespace Go.Proofs.YtmnhnighlgpjmaaDoor
set_option linter.unusedVariables false
set_option linter.unusedSimpArgs false
open Go.RowKit

set_option maxRecDepth 100000 in
set_option maxHeartbeats 4000000 in
theorem smallP (w : World) (hL : LaidI w) :
    Calls Tryd.prog 4 #[] w fun e w' => e = .returned (.bool true) ∧ Below w.heap.size w w' := by
  have hadd := fun w => run_string_add_sum (P := Tryd.prog) (w := w) ⟨#[120, 120]⟩ ⟨#[13, 1, 2, 0, 255, 255, 255, 255]⟩ (by decide)
  have K0 := Lib.hid ((Kp.mk hL (Below.refl _ _)).alloc (.cells #[.int .i64 13, .int .i64 1, .int .i64 2, .int .i64 0, .int .i64 (-1)] 23))
  have P0 := Lib.hid (block_new w (.cells #[.int .i64 13, .int .i64 1, .int .i64 2, .int .i64 0, .int .i64 (-1)] 23))
  clear hL
  go_enter Tryd.func4, Tryd.ntmps4
  go_wp2_with fail
  refine (enc_ex _ K0.out.laid).mono ?_; rintro e w1 ⟨rfl, hb⟩
  have K1 := Lib.hid (K0.out.call hb)
  have P1 := Lib.hid (blkKeep P0.out hb)
  clear hb
  go_wp2_with fail
  refine (dec_ex _ K1.out.laid).mono ?_; rintro e w2 ⟨rfl, hb⟩
  have K2 := Lib.hid ((K1.out.call hb).alloc (.cells #[.int .i64 13, .int .i64 1, .int .i64 2, .int .i64 0, .int .i64 (-1)] 23))
  have P2 := Lib.hid (blkNew (blkKeep P1.out hb) (.cells #[.int .i64 13, .int .i64 1, .int .i64 2, .int .i64 0, .int .i64 (-1)] 23))
  have Q2 := Lib.hid (block_new w2 (.cells #[.int .i64 13, .int .i64 1, .int .i64 2, .int .i64 0, .int .i64 (-1)] 23))
  clear hb
  go_wp2_with fail
  refine (pex1 _ K2.out.laid).mono ?_; rintro e w3 ⟨rfl, hb⟩
  have K3 := Lib.hid ((K2.out.call hb).alloc (.cells #[.int .i64 15, .int .i64 3, .int .i64 15, .int .i64 0, .int .i64 8] 23))
  have P3 := Lib.hid (blkNew (blkKeep P2.out hb) (.cells #[.int .i64 15, .int .i64 3, .int .i64 15, .int .i64 0, .int .i64 8] 23))
  have Q3 := Lib.hid (blkNew (blkKeep Q2.out hb) (.cells #[.int .i64 15, .int .i64 3, .int .i64 15, .int .i64 0, .int .i64 8] 23))
  have R3 := Lib.hid (block_new w3 (.cells #[.int .i64 15, .int .i64 3, .int .i64 15, .int .i64 0, .int .i64 8] 23))
  clear hb
  go_wp2_with fail
  refine (pex2 _ K3.out.laid).mono ?_; rintro e w4 ⟨rfl, hb⟩
  have K4 := Lib.hid ((K3.out.call hb).alloc (.cells #[.int .i64 0, .int .i64 0, .int .i64 0, .int .i64 0, .int .i64 0] 23))
  have P4 := Lib.hid (blkNew (blkKeep P3.out hb) (.cells #[.int .i64 0, .int .i64 0, .int .i64 0, .int .i64 0, .int .i64 0] 23))
  have Q4 := Lib.hid (blkNew (blkKeep Q3.out hb) (.cells #[.int .i64 0, .int .i64 0, .int .i64 0, .int .i64 0, .int .i64 0] 23))
  have R4 := Lib.hid (blkNew (blkKeep R3.out hb) (.cells #[.int .i64 0, .int .i64 0, .int .i64 0, .int .i64 0, .int .i64 0] 23))
  clear hb
  go_wp2_with fail
  refine (pex3 _ K4.out.laid).mono ?_; rintro e w5 ⟨rfl, hb⟩
  have K5 := Lib.hid ((K4.out.call hb).alloc (.cells #[.int .i64 0, .int .i64 0, .int .i64 0, .int .i64 0, .int .i64 0] 23))
  have P5 := Lib.hid (blkNew (blkKeep P4.out hb) (.cells #[.int .i64 0, .int .i64 0, .int .i64 0, .int .i64 0, .int .i64 0] 23))
  have Q5 := Lib.hid (blkNew (blkKeep Q4.out hb) (.cells #[.int .i64 0, .int .i64 0, .int .i64 0, .int .i64 0, .int .i64 0] 23))
  have R5 := Lib.hid (blkNew (blkKeep R4.out hb) (.cells #[.int .i64 0, .int .i64 0, .int .i64 0, .int .i64 0, .int .i64 0] 23))
  clear hb
  go_wp2_with fail
  refine (pex4 _ K5.out.laid).mono ?_; rintro e w6 ⟨rfl, hb⟩
  have K6 := Lib.hid ((K5.out.call hb).alloc (.cells #[.int .i64 0, .int .i64 0, .int .i64 0, .int .i64 0, .int .i64 0] 23))
  have P6 := Lib.hid (blkNew (blkKeep P5.out hb) (.cells #[.int .i64 0, .int .i64 0, .int .i64 0, .int .i64 0, .int .i64 0] 23))
  have Q6 := Lib.hid (blkNew (blkKeep Q5.out hb) (.cells #[.int .i64 0, .int .i64 0, .int .i64 0, .int .i64 0, .int .i64 0] 23))
  have R6 := Lib.hid (blkNew (blkKeep R5.out hb) (.cells #[.int .i64 0, .int .i64 0, .int .i64 0, .int .i64 0, .int .i64 0] 23))
  clear hb
  go_wp2_with fail
  refine (uex _ K6.out.laid).mono ?_; rintro e w7 ⟨u, v, rfl, hu, hv, hb⟩
  have K7 := Lib.hid (K6.out.call hb)
  have P7 := Lib.hid (blkKeep P6.out hb)
  have Q7 := Lib.hid (blkKeep Q6.out hb)
  have R7 := Lib.hid (blkKeep R6.out hb)
  have U7 := Lib.hid hu
  have V7 := Lib.hid hv
  clear hb hu hv
  have p0 : w7.cell? ⟨w.heap.size, 0, none⟩ = some (.int .i64 13) := blk_cell P7.out 0
  have p1 : w7.cell? ⟨w.heap.size, 1, none⟩ = some (.int .i64 1) := blk_cell P7.out 1
  have p2 : w7.cell? ⟨w.heap.size, 2, none⟩ = some (.int .i64 2) := blk_cell P7.out 2
  have p3 : w7.cell? ⟨w.heap.size, 3, none⟩ = some (.int .i64 0) := blk_cell P7.out 3
  have p4 : w7.cell? ⟨w.heap.size, 4, none⟩ = some (.int .i64 (-1)) := blk_cell P7.out 4
  have q0 : w7.cell? ⟨w2.heap.size, 0, none⟩ = some (.int .i64 13) := blk_cell Q7.out 0
  have q1 : w7.cell? ⟨w2.heap.size, 1, none⟩ = some (.int .i64 1) := blk_cell Q7.out 1
  have q2 : w7.cell? ⟨w2.heap.size, 2, none⟩ = some (.int .i64 2) := blk_cell Q7.out 2
  have q3 : w7.cell? ⟨w2.heap.size, 3, none⟩ = some (.int .i64 0) := blk_cell Q7.out 3
  have q4 : w7.cell? ⟨w2.heap.size, 4, none⟩ = some (.int .i64 (-1)) := blk_cell Q7.out 4
  go_wp2_with fail
  refine (tex1 _ K7.out.laid).mono ?_; rintro e w8 ⟨rfl, hb⟩
  have K8 := Lib.hid (K7.out.call hb)
  have P8 := Lib.hid (blkKeep P7.out hb)
  have R8 := Lib.hid (blkKeep R7.out hb)
  have U8 := Lib.hid (IRow.keep U7.out hb)
  have V8 := Lib.hid (IRow.keep V7.out hb)
  clear hb p0 p1 p2 p3 p4 q0 q1 q2 q3 q4
  go_wp2_with fail
  refine (tex2 _ K8.out.laid).mono ?_; rintro e w9 ⟨rfl, hb⟩
  have K9 := Lib.hid (K8.out.call hb)
  have P9 := Lib.hid (blkKeep P8.out hb)
  have R9 := Lib.hid (blkKeep R8.out hb)
  have U9 := Lib.hid (IRow.keep U8.out hb)
  have V9 := Lib.hid (IRow.keep V8.out hb)
  clear hb
  have r0 : w9.cell? ⟨w3.heap.size, 0, none⟩ = some (.int .i64 15) := blk_cell R9.out 0
  have r1 : w9.cell? ⟨w3.heap.size, 1, none⟩ = some (.int .i64 3) := blk_cell R9.out 1
  have r2 : w9.cell? ⟨w3.heap.size, 2, none⟩ = some (.int .i64 15) := blk_cell R9.out 2
  have r3 : w9.cell? ⟨w3.heap.size, 3, none⟩ = some (.int .i64 0) := blk_cell R9.out 3
  have r4 : w9.cell? ⟨w3.heap.size, 4, none⟩ = some (.int .i64 8) := blk_cell R9.out 4
  go_wp2_with fail
  refine (intsP _ _ _ _ _ (IRow.keep U9.out (below_new w9 _)) (row1 w9 15 _)).mono ?_; rintro e w10 ⟨rfl, hb⟩
  have K10 := Lib.hid ((K9.out.alloc _).call hb)
  have P10 := Lib.hid (blkKeep (blkNew P9.out _) hb)
  have V10 := Lib.hid (IRow.keep (IRow.keep V9.out (below_new w9 _)) hb)
  clear hb r0 r1 r2 r3 r4
  go_wp2_with fail
  refine (intsP _ _ _ _ _ (IRow.keep V10.out (below_new w10 _)) (row2 w10 4 15 _)).mono ?_; rintro e w11 ⟨rfl, hb⟩
  have K11 := Lib.hid ((K10.out.alloc _).call hb)
  have P11 := Lib.hid (blkKeep (blkNew P10.out _) hb)
  clear hb
  have p0 : w11.cell? ⟨w.heap.size, 0, none⟩ = some (.int .i64 13) := blk_cell P11.out 0
  have p1 : w11.cell? ⟨w.heap.size, 1, none⟩ = some (.int .i64 1) := blk_cell P11.out 1
  have p2 : w11.cell? ⟨w.heap.size, 2, none⟩ = some (.int .i64 2) := blk_cell P11.out 2
  have p3 : w11.cell? ⟨w.heap.size, 3, none⟩ = some (.int .i64 0) := blk_cell P11.out 3
  have p4 : w11.cell? ⟨w.heap.size, 4, none⟩ = some (.int .i64 (-1)) := blk_cell P11.out 4
  go_wp2_with fail
  refine (rex1 _ K11.out.laid).mono ?_; rintro e w12 ⟨rfl, hb⟩
  have K12 := Lib.hid (K11.out.call hb)
  clear hb p0 p1 p2 p3 p4
  go_wp2_with fail
  refine (rex2 _ K12.out.laid).mono ?_; rintro e w13 ⟨rfl, hb⟩
  have K13 := Lib.hid (K12.out.call hb)
  clear hb
  go_wp2_with fail
  go_ret
  exact ⟨rfl, K13.out.below⟩
end Go.Proofs.YtmnhnighlgpjmaaDoor
