/-
  The walk of IsaBack.
-/
import Derived.Test.YtijcdhkojidgeaaDoorIO
import Derived.Test.YtijcdhkojidgeaaDoorII
import Derived.StillTailTactics
import Derived.Deep.RegionHeld3
namespace Go.Proofs.YtijcdhkojidgeaaDoor.isaBack
set_option linter.unusedVariables false
set_option linter.unusedSimpArgs false
open Go.RowKit

def encR (i : Ins) : ByteArray := if rightB i then encS i else ⟨#[]⟩
theorem encP (o a b c m : Int) (w : World) (hF : FormsAt w) :
    Calls Tryd.prog 9 #[.agg #[.int .i64 o, .int .i64 a, .int .i64 b, .int .i64 c, .int .i64 m]] w fun e w' => e = .returned (.tuple #[.string (encR ⟨o, a, b, c, m⟩), .bool (rightB ⟨o, a, b, c, m⟩)]) ∧ Below w.heap.size w w' := by
  unfold encR
  cases h : rightB ⟨o, a, b, c, m⟩
  · exact encNoP o a b c m w hF h
  · have ho := right_op h
    have ha := right_reg h 0 (by omega)
    have hb := right_reg h 1 (by omega)
    have hc := right_reg h 2 (by omega)
    simp only [fldN, if_true] at ha hb hc
    obtain ⟨o, rfl⟩ := Int.eq_ofNat_of_zero_le (a := o) (by simp only at ho; omega)
    obtain ⟨a, rfl⟩ := Int.eq_ofNat_of_zero_le (a := a) ha.1
    obtain ⟨b, rfl⟩ := Int.eq_ofNat_of_zero_le (a := b) hb.1
    obtain ⟨c, rfl⟩ := Int.eq_ofNat_of_zero_le (a := c) hc.1
    exact encYesP o a b c m w hF h (by simp only at ho; omega) (by omega) (by omega) (by omega)

def Goal (w : World) (e : Ending) (w' : World) : Prop := e = .returned (.bool true) ∧ Below w.heap.size w w'

theorem longP (i j : Value) (s t : ByteArray) (w : World) (ws : s.size ≤ 9223372036854775807) (wt : t.size ≤ 9223372036854775807) (vi : ∃ o a b c m, i = .agg #[.int .i64 o, .int .i64 a, .int .i64 b, .int .i64 c, .int .i64 m]) (vj : ∃ o a b c m, j = .agg #[.int .i64 o, .int .i64 a, .int .i64 b, .int .i64 c, .int .i64 m]) (hL : LaidI w) (h : 300 < s.size ∨ 300 < t.size) :
    Calls Tryd.prog 4 #[i, j, .string s, .string t] w (Goal w) := by
  obtain ⟨o, a, b, c, m, rfl⟩ := vi
  obtain ⟨o', a', b', c', m', rfl⟩ := vj
  have K0 := Lib.hid (((Kp.mk hL (Below.refl _ _)).alloc (.cells #[.int .i64 o, .int .i64 a, .int .i64 b, .int .i64 c, .int .i64 m] 23)).alloc (.cells #[.int .i64 o', .int .i64 a', .int .i64 b', .int .i64 c', .int .i64 m'] 23))
  have KS := Lib.hid (smallP _ K0.out.laid)
  clear hL
  rcases h with h | h
  · have hd : (300 : Int) < s.size := by omega
    go_enter Tryd.func4, Tryd.ntmps4
    go_wp2_with fail
    refine KS.out.mono ?_; rintro e w1 ⟨rfl, hb⟩
    have HF : Hid (Goal w (.returned (.bool true)) w1) := Lib.hid ⟨rfl, (K0.out.call hb).below⟩; clear hb
    go_wp2_with fail
    go_ret
    exact HF.out
  · by_cases h2 : 300 < s.size
    · have hd : (300 : Int) < s.size := by omega
      go_enter Tryd.func4, Tryd.ntmps4
      go_wp2_with fail
      refine KS.out.mono ?_; rintro e w1 ⟨rfl, hb⟩
      have HF : Hid (Goal w (.returned (.bool true)) w1) := Lib.hid ⟨rfl, (K0.out.call hb).below⟩; clear hb
      go_wp2_with fail
      go_ret
      exact HF.out
    · have hd : decide ((300 : Int) < s.size) = false := decide_eq_false (by omega)
      have hd' : decide (300 < s.size) = false := decide_eq_false (by omega)
      have hd2 : (300 : Int) < t.size := by omega
      go_enter Tryd.func4, Tryd.ntmps4
      go_wp2_with fail
      refine KS.out.mono ?_; rintro e w1 ⟨rfl, hb⟩
      have HF : Hid (Goal w (.returned (.bool true)) w1) := Lib.hid ⟨rfl, (K0.out.call hb).below⟩; clear hb
      go_wp2_with fail
      go_ret
      exact HF.out

set_option maxRecDepth 100000 in
set_option maxHeartbeats 4000000 in
theorem noP (o a b c m o' a' b' c' m' : Int) (s t : ByteArray) (w : World) (hL : LaidI w) (hs : s.size ≤ 300) (ht : t.size ≤ 300) (hi : rightB ⟨o, a, b, c, m⟩ = false) :
    Calls Tryd.prog 4 #[.agg #[.int .i64 o, .int .i64 a, .int .i64 b, .int .i64 c, .int .i64 m], .agg #[.int .i64 o', .int .i64 a', .int .i64 b', .int .i64 c', .int .i64 m'], .string s, .string t] w (Goal w) := by
  have K0 := Lib.hid (((Kp.mk hL (Below.refl _ _)).alloc (.cells #[.int .i64 o, .int .i64 a, .int .i64 b, .int .i64 c, .int .i64 m] 23)).alloc (.cells #[.int .i64 o', .int .i64 a', .int .i64 b', .int .i64 c', .int .i64 m'] 23))
  have P0 := Lib.hid (blkNew (block_new w (.cells #[.int .i64 o, .int .i64 a, .int .i64 b, .int .i64 c, .int .i64 m] 23)) (.cells #[.int .i64 o', .int .i64 a', .int .i64 b', .int .i64 c', .int .i64 m'] 23))
  have Q0 := Lib.hid (two_snd w (.cells #[.int .i64 o, .int .i64 a, .int .i64 b, .int .i64 c, .int .i64 m] 23) (.cells #[.int .i64 o', .int .i64 a', .int .i64 b', .int .i64 c', .int .i64 m'] 23))
  have KS := Lib.hid (smallP _ K0.out.laid)
  clear hL
  have hd1 : decide ((300 : Int) < s.size) = false := decide_eq_false (by omega)
  have hd1' : decide (300 < s.size) = false := decide_eq_false (by omega)
  have hd2 : decide ((300 : Int) < t.size) = false := decide_eq_false (by omega)
  have hd2' : decide (300 < t.size) = false := decide_eq_false (by omega)

  have HE := Lib.hid (fun W h => encNoP o a b c m W h hi)
  have HT := Lib.hid (fun W (h : LaidI W) => textNoP o a b c m W h.forms hi)
  have HR := Lib.hid (fun W h => rightP o a b c m W h)
  rw [hi] at HR
  have HEJ := Lib.hid (fun W h => encP o' a' b' c' m' W h)
  obtain ⟨sj, hsj⟩ : ∃ x, encR ⟨o', a', b', c', m'⟩ = x := ⟨_, rfl⟩
  obtain ⟨bj, hbj⟩ : ∃ x, rightB ⟨o', a', b', c', m'⟩ = x := ⟨_, rfl⟩
  rw [hsj, hbj] at HEJ
  clear hsj hbj hi
  go_enter Tryd.func4, Tryd.ntmps4
  go_wp2_with fail
  refine KS.out.mono ?_; rintro e w1 ⟨rfl, hb⟩
  have K1 := Lib.hid (K0.out.call hb)
  have P1 := Lib.hid (blkKeep P0.out hb)
  have Q1 := Lib.hid (blkKeep Q0.out hb)
  clear hb
  have p0 : w1.cell? ⟨w.heap.size, 0, none⟩ = some (.int .i64 o) := blk_cell P1.out 0
  have p1 : w1.cell? ⟨w.heap.size, 1, none⟩ = some (.int .i64 a) := blk_cell P1.out 1
  have p2 : w1.cell? ⟨w.heap.size, 2, none⟩ = some (.int .i64 b) := blk_cell P1.out 2
  have p3 : w1.cell? ⟨w.heap.size, 3, none⟩ = some (.int .i64 c) := blk_cell P1.out 3
  have p4 : w1.cell? ⟨w.heap.size, 4, none⟩ = some (.int .i64 m) := blk_cell P1.out 4
  have q0 : w1.cell? ⟨w.heap.size + 1, 0, none⟩ = some (.int .i64 o') := blk_cell Q1.out 0
  have q1 : w1.cell? ⟨w.heap.size + 1, 1, none⟩ = some (.int .i64 a') := blk_cell Q1.out 1
  have q2 : w1.cell? ⟨w.heap.size + 1, 2, none⟩ = some (.int .i64 b') := blk_cell Q1.out 2
  have q3 : w1.cell? ⟨w.heap.size + 1, 3, none⟩ = some (.int .i64 c') := blk_cell Q1.out 3
  have q4 : w1.cell? ⟨w.heap.size + 1, 4, none⟩ = some (.int .i64 m') := blk_cell Q1.out 4
  go_wp2_with fail
  refine (HE.out _ K1.out.laid.forms).mono ?_; rintro e w2 ⟨rfl, hb⟩
  have K2 := Lib.hid (K1.out.call hb)
  have P2 := Lib.hid (blkKeep P1.out hb)
  have Q2 := Lib.hid (blkKeep Q1.out hb)
  clear hb p0 p1 p2 p3 p4 q0 q1 q2 q3 q4
  have p0 : w2.cell? ⟨w.heap.size, 0, none⟩ = some (.int .i64 o) := blk_cell P2.out 0
  have p1 : w2.cell? ⟨w.heap.size, 1, none⟩ = some (.int .i64 a) := blk_cell P2.out 1
  have p2 : w2.cell? ⟨w.heap.size, 2, none⟩ = some (.int .i64 b) := blk_cell P2.out 2
  have p3 : w2.cell? ⟨w.heap.size, 3, none⟩ = some (.int .i64 c) := blk_cell P2.out 3
  have p4 : w2.cell? ⟨w.heap.size, 4, none⟩ = some (.int .i64 m) := blk_cell P2.out 4
  go_wp2_with fail
  refine (HT.out _ K2.out.laid).mono ?_; rintro e w3 ⟨rfl, hb⟩
  have K3 := Lib.hid (K2.out.call hb)
  have P3 := Lib.hid (blkKeep P2.out hb)
  have Q3 := Lib.hid (blkKeep Q2.out hb)
  clear hb p0 p1 p2 p3 p4
  have p0 : w3.cell? ⟨w.heap.size, 0, none⟩ = some (.int .i64 o) := blk_cell P3.out 0
  have p1 : w3.cell? ⟨w.heap.size, 1, none⟩ = some (.int .i64 a) := blk_cell P3.out 1
  have p2 : w3.cell? ⟨w.heap.size, 2, none⟩ = some (.int .i64 b) := blk_cell P3.out 2
  have p3 : w3.cell? ⟨w.heap.size, 3, none⟩ = some (.int .i64 c) := blk_cell P3.out 3
  have p4 : w3.cell? ⟨w.heap.size, 4, none⟩ = some (.int .i64 m) := blk_cell P3.out 4
  go_wp2_with fail
  refine (HR.out _ K3.out.laid.forms).mono ?_; rintro e w4 ⟨rfl, hb⟩
  have K4 := Lib.hid (K3.out.call hb)
  have P4 := Lib.hid (blkKeep P3.out hb)
  have Q4 := Lib.hid (blkKeep Q3.out hb)
  clear hb p0 p1 p2 p3 p4
  have q0 : w4.cell? ⟨w.heap.size + 1, 0, none⟩ = some (.int .i64 o') := blk_cell Q4.out 0
  have q1 : w4.cell? ⟨w.heap.size + 1, 1, none⟩ = some (.int .i64 a') := blk_cell Q4.out 1
  have q2 : w4.cell? ⟨w.heap.size + 1, 2, none⟩ = some (.int .i64 b') := blk_cell Q4.out 2
  have q3 : w4.cell? ⟨w.heap.size + 1, 3, none⟩ = some (.int .i64 c') := blk_cell Q4.out 3
  have q4 : w4.cell? ⟨w.heap.size + 1, 4, none⟩ = some (.int .i64 m') := blk_cell Q4.out 4
  go_wp2_with fail
  refine (HEJ.out _ K4.out.laid.forms).mono ?_; rintro e w5 ⟨rfl, hb⟩
  have K5 := Lib.hid (K4.out.call hb)
  have P5 := Lib.hid (blkKeep P4.out hb)
  have Q5 := Lib.hid (blkKeep Q4.out hb)
  clear hb q0 q1 q2 q3 q4
  have HF : Hid (Goal w (.returned (.bool true)) w5) := Lib.hid ⟨rfl, K5.out.below⟩
  go_wp2_with fail
  go_ret
  exact HF.out

set_option maxRecDepth 100000 in
set_option maxHeartbeats 4000000 in
theorem oneP (o a b c m o' a' b' c' m' : Int) (s t : ByteArray) (w : World) (hL : LaidI w) (hs : s.size ≤ 300) (ht : t.size ≤ 300) (hi : rightB ⟨o, a, b, c, m⟩ = true) (hj : rightB ⟨o', a', b', c', m'⟩ = false) :
    Calls Tryd.prog 4 #[.agg #[.int .i64 o, .int .i64 a, .int .i64 b, .int .i64 c, .int .i64 m], .agg #[.int .i64 o', .int .i64 a', .int .i64 b', .int .i64 c', .int .i64 m'], .string s, .string t] w (Goal w) := by
  have K0 := Lib.hid (((Kp.mk hL (Below.refl _ _)).alloc (.cells #[.int .i64 o, .int .i64 a, .int .i64 b, .int .i64 c, .int .i64 m] 23)).alloc (.cells #[.int .i64 o', .int .i64 a', .int .i64 b', .int .i64 c', .int .i64 m'] 23))
  have P0 := Lib.hid (blkNew (block_new w (.cells #[.int .i64 o, .int .i64 a, .int .i64 b, .int .i64 c, .int .i64 m] 23)) (.cells #[.int .i64 o', .int .i64 a', .int .i64 b', .int .i64 c', .int .i64 m'] 23))
  have Q0 := Lib.hid (two_snd w (.cells #[.int .i64 o, .int .i64 a, .int .i64 b, .int .i64 c, .int .i64 m] 23) (.cells #[.int .i64 o', .int .i64 a', .int .i64 b', .int .i64 c', .int .i64 m'] 23))
  have KS := Lib.hid (smallP _ K0.out.laid)
  clear hL
  have hd1 : decide ((300 : Int) < s.size) = false := decide_eq_false (by omega)
  have hd1' : decide (300 < s.size) = false := decide_eq_false (by omega)
  have hd2 : decide ((300 : Int) < t.size) = false := decide_eq_false (by omega)
  have hd2' : decide (300 < t.size) = false := decide_eq_false (by omega)

  have HE := Lib.hid (fun W h => encP o a b c m W h)
  have HT := Lib.hid (fun W (h : LaidI W) => textP o a b c m W h)
  have HR := Lib.hid (fun W h => rightP o a b c m W h)
  have HEJ := Lib.hid (fun W h => encNoP o' a' b' c' m' W h hj)
  have hne := text_ne hi
  rw [hi] at HE HR
  obtain ⟨si, hsi⟩ : ∃ x, encR ⟨o, a, b, c, m⟩ = x := ⟨_, rfl⟩
  obtain ⟨ti, hti⟩ : ∃ x, arr (textL ⟨o, a, b, c, m⟩) = x := ⟨_, rfl⟩
  have hnq : (ti.toList == []) = false := by rw [← hti, Lib.toList_data, arr_list]; exact beq_eq_false_iff_ne.2 hne
  have hnq3 : ti.toList.isEmpty = false := by cases hh : ti.toList with | nil => rw [hh] at hnq; cases hnq | cons x y => rfl
  have hnq4 : (!ti.toList.isEmpty) = true := by rw [hnq3]; rfl
  rw [hsi] at HE
  rw [hti] at HT
  clear hsi hti hi hj hne
  go_enter Tryd.func4, Tryd.ntmps4
  go_wp2_with fail
  refine KS.out.mono ?_; rintro e w1 ⟨rfl, hb⟩
  have K1 := Lib.hid (K0.out.call hb)
  have P1 := Lib.hid (blkKeep P0.out hb)
  have Q1 := Lib.hid (blkKeep Q0.out hb)
  clear hb
  have p0 : w1.cell? ⟨w.heap.size, 0, none⟩ = some (.int .i64 o) := blk_cell P1.out 0
  have p1 : w1.cell? ⟨w.heap.size, 1, none⟩ = some (.int .i64 a) := blk_cell P1.out 1
  have p2 : w1.cell? ⟨w.heap.size, 2, none⟩ = some (.int .i64 b) := blk_cell P1.out 2
  have p3 : w1.cell? ⟨w.heap.size, 3, none⟩ = some (.int .i64 c) := blk_cell P1.out 3
  have p4 : w1.cell? ⟨w.heap.size, 4, none⟩ = some (.int .i64 m) := blk_cell P1.out 4
  have q0 : w1.cell? ⟨w.heap.size + 1, 0, none⟩ = some (.int .i64 o') := blk_cell Q1.out 0
  have q1 : w1.cell? ⟨w.heap.size + 1, 1, none⟩ = some (.int .i64 a') := blk_cell Q1.out 1
  have q2 : w1.cell? ⟨w.heap.size + 1, 2, none⟩ = some (.int .i64 b') := blk_cell Q1.out 2
  have q3 : w1.cell? ⟨w.heap.size + 1, 3, none⟩ = some (.int .i64 c') := blk_cell Q1.out 3
  have q4 : w1.cell? ⟨w.heap.size + 1, 4, none⟩ = some (.int .i64 m') := blk_cell Q1.out 4
  go_wp2_with fail
  refine (HE.out _ K1.out.laid.forms).mono ?_; rintro e w2 ⟨rfl, hb⟩
  have K2 := Lib.hid (K1.out.call hb)
  have P2 := Lib.hid (blkKeep P1.out hb)
  have Q2 := Lib.hid (blkKeep Q1.out hb)
  clear hb p0 p1 p2 p3 p4 q0 q1 q2 q3 q4
  have p0 : w2.cell? ⟨w.heap.size, 0, none⟩ = some (.int .i64 o) := blk_cell P2.out 0
  have p1 : w2.cell? ⟨w.heap.size, 1, none⟩ = some (.int .i64 a) := blk_cell P2.out 1
  have p2 : w2.cell? ⟨w.heap.size, 2, none⟩ = some (.int .i64 b) := blk_cell P2.out 2
  have p3 : w2.cell? ⟨w.heap.size, 3, none⟩ = some (.int .i64 c) := blk_cell P2.out 3
  have p4 : w2.cell? ⟨w.heap.size, 4, none⟩ = some (.int .i64 m) := blk_cell P2.out 4
  go_wp2_with fail
  refine (HT.out _ K2.out.laid).mono ?_; rintro e w3 ⟨rfl, hb⟩
  have K3 := Lib.hid (K2.out.call hb)
  have P3 := Lib.hid (blkKeep P2.out hb)
  have Q3 := Lib.hid (blkKeep Q2.out hb)
  clear hb p0 p1 p2 p3 p4
  have p0 : w3.cell? ⟨w.heap.size, 0, none⟩ = some (.int .i64 o) := blk_cell P3.out 0
  have p1 : w3.cell? ⟨w.heap.size, 1, none⟩ = some (.int .i64 a) := blk_cell P3.out 1
  have p2 : w3.cell? ⟨w.heap.size, 2, none⟩ = some (.int .i64 b) := blk_cell P3.out 2
  have p3 : w3.cell? ⟨w.heap.size, 3, none⟩ = some (.int .i64 c) := blk_cell P3.out 3
  have p4 : w3.cell? ⟨w.heap.size, 4, none⟩ = some (.int .i64 m) := blk_cell P3.out 4
  go_wp2_with fail
  refine (HR.out _ K3.out.laid.forms).mono ?_; rintro e w4 ⟨rfl, hb⟩
  have K4 := Lib.hid (K3.out.call hb)
  have P4 := Lib.hid (blkKeep P3.out hb)
  have Q4 := Lib.hid (blkKeep Q3.out hb)
  clear hb p0 p1 p2 p3 p4
  have q0 : w4.cell? ⟨w.heap.size + 1, 0, none⟩ = some (.int .i64 o') := blk_cell Q4.out 0
  have q1 : w4.cell? ⟨w.heap.size + 1, 1, none⟩ = some (.int .i64 a') := blk_cell Q4.out 1
  have q2 : w4.cell? ⟨w.heap.size + 1, 2, none⟩ = some (.int .i64 b') := blk_cell Q4.out 2
  have q3 : w4.cell? ⟨w.heap.size + 1, 3, none⟩ = some (.int .i64 c') := blk_cell Q4.out 3
  have q4 : w4.cell? ⟨w.heap.size + 1, 4, none⟩ = some (.int .i64 m') := blk_cell Q4.out 4
  go_wp2_with fail
  refine (HEJ.out _ K4.out.laid.forms).mono ?_; rintro e w5 ⟨rfl, hb⟩
  have K5 := Lib.hid (K4.out.call hb)
  have P5 := Lib.hid (blkKeep P4.out hb)
  have Q5 := Lib.hid (blkKeep Q4.out hb)
  clear hb q0 q1 q2 q3 q4
  have HF : Hid (Goal w (.returned (.bool true)) w5) := Lib.hid ⟨rfl, K5.out.below⟩
  go_wp2_with fail
  go_ret
  exact HF.out

theorem keep20 {w w' : World} (hb : Below w.heap.size w w') {a0 a1 a2 a3 a4 a5 a6 a7 a8 a9 a10 a11 a12 a13 a14 a15 a16 a17 a18 a19 : Addr} {v0 v1 v2 v3 v4 v5 v6 v7 v8 v9 v10 v11 v12 v13 v14 v15 v16 v17 v18 v19 : Value} (h : w.cell? a0 = some v0 ∧ w.cell? a1 = some v1 ∧ w.cell? a2 = some v2 ∧ w.cell? a3 = some v3 ∧ w.cell? a4 = some v4 ∧ w.cell? a5 = some v5 ∧ w.cell? a6 = some v6 ∧ w.cell? a7 = some v7 ∧ w.cell? a8 = some v8 ∧ w.cell? a9 = some v9 ∧ w.cell? a10 = some v10 ∧ w.cell? a11 = some v11 ∧ w.cell? a12 = some v12 ∧ w.cell? a13 = some v13 ∧ w.cell? a14 = some v14 ∧ w.cell? a15 = some v15 ∧ w.cell? a16 = some v16 ∧ w.cell? a17 = some v17 ∧ w.cell? a18 = some v18 ∧ w.cell? a19 = some v19) :
    w'.cell? a0 = some v0 ∧ w'.cell? a1 = some v1 ∧ w'.cell? a2 = some v2 ∧ w'.cell? a3 = some v3 ∧ w'.cell? a4 = some v4 ∧ w'.cell? a5 = some v5 ∧ w'.cell? a6 = some v6 ∧ w'.cell? a7 = some v7 ∧ w'.cell? a8 = some v8 ∧ w'.cell? a9 = some v9 ∧ w'.cell? a10 = some v10 ∧ w'.cell? a11 = some v11 ∧ w'.cell? a12 = some v12 ∧ w'.cell? a13 = some v13 ∧ w'.cell? a14 = some v14 ∧ w'.cell? a15 = some v15 ∧ w'.cell? a16 = some v16 ∧ w'.cell? a17 = some v17 ∧ w'.cell? a18 = some v18 ∧ w'.cell? a19 = some v19 := by
  obtain ⟨h0, h1, h2, h3, h4, h5, h6, h7, h8, h9, h10, h11, h12, h13, h14, h15, h16, h17, h18, h19⟩ := h
  exact ⟨keep_below hb h0, keep_below hb h1, keep_below hb h2, keep_below hb h3, keep_below hb h4, keep_below hb h5, keep_below hb h6, keep_below hb h7, keep_below hb h8, keep_below hb h9, keep_below hb h10, keep_below hb h11, keep_below hb h12, keep_below hb h13, keep_below hb h14, keep_below hb h15, keep_below hb h16, keep_below hb h17, keep_below hb h18, keep_below hb h19⟩
end Go.Proofs.YtijcdhkojidgeaaDoor.isaBack
