/-
  The walk of IsaBack: two right instructions, case 2.
-/
import Derived.Test.YtijcdhkojidgeaaDoorIBase
namespace Go.Proofs.YtijcdhkojidgeaaDoor.isaBack
set_option linter.unusedVariables false
set_option linter.unusedSimpArgs false
open Go.RowKit

set_option maxRecDepth 100000 in
set_option maxHeartbeats 16000000 in
theorem both2 (o a b c m b' c' m' : Int) (s t : ByteArray) (w : World) (hL : LaidI w) (hs : s.size ≤ 300) (ht : t.size ≤ 300) (hi : rightB ⟨o, a, b, c, m⟩ = true) (hj : rightB ⟨o, a, b', c', m'⟩ = true) (hxk : b ≠ b') :
    Calls Tryd.prog 4 #[.agg #[.int .i64 o, .int .i64 a, .int .i64 b, .int .i64 c, .int .i64 m], .agg #[.int .i64 o, .int .i64 a, .int .i64 b', .int .i64 c', .int .i64 m'], .string s, .string t] w (Goal w) := by
  have K0 := Lib.hid (((Kp.mk hL (Below.refl _ _)).alloc (.cells #[.int .i64 o, .int .i64 a, .int .i64 b, .int .i64 c, .int .i64 m] 23)).alloc (.cells #[.int .i64 o, .int .i64 a, .int .i64 b', .int .i64 c', .int .i64 m'] 23))
  have P0 := Lib.hid (blkNew (block_new w (.cells #[.int .i64 o, .int .i64 a, .int .i64 b, .int .i64 c, .int .i64 m] 23)) (.cells #[.int .i64 o, .int .i64 a, .int .i64 b', .int .i64 c', .int .i64 m'] 23))
  have Q0 := Lib.hid (two_snd w (.cells #[.int .i64 o, .int .i64 a, .int .i64 b, .int .i64 c, .int .i64 m] 23) (.cells #[.int .i64 o, .int .i64 a, .int .i64 b', .int .i64 c', .int .i64 m'] 23))
  have KS := Lib.hid (smallP _ K0.out.laid)
  clear hL
  have hd1 : decide ((300 : Int) < s.size) = false := decide_eq_false (by omega)
  have hd1' : decide (300 < s.size) = false := decide_eq_false (by omega)
  have hd2 : decide ((300 : Int) < t.size) = false := decide_eq_false (by omega)
  have hd2' : decide (300 < t.size) = false := decide_eq_false (by omega)

  have HE := Lib.hid (fun W h => encP o a b c m W h)
  have HT := Lib.hid (fun W (h : LaidI W) => textP o a b c m W h)
  have HR := Lib.hid (fun W h => rightP o a b c m W h)
  have HEJ := Lib.hid (fun W h => encP o a b' c' m' W h)
  have HTJ := Lib.hid (fun W (h : LaidI W) => textP o a b' c' m' W h)
  have hne : (⟨o, a, b, c, m⟩ : Ins) ≠ ⟨o, a, b', c', m'⟩ := fun e => hxk (by injection e)
  have hne1 := text_ne hi
  have hbd := right_imm hi
  have hso := right_op hi
  have hei : encR ⟨o, a, b, c, m⟩ = encS ⟨o, a, b, c, m⟩ := by unfold encR; rw [hi]; rfl
  have hej : encR ⟨o, a, b', c', m'⟩ = encS ⟨o, a, b', c', m'⟩ := by unfold encR; rw [hj]; rfl
  have hde := fun B C => dec_enc hi B C
  have him := enc_imm _ hbd
  have hsz := encS_size ⟨o, a, b, c, m⟩
  have h0b : (encS ⟨o, a, b, c, m⟩)[0]'(by rw [hsz]; decide) = UInt8.ofNat o.toNat := rfl
  have hEQ : ((encS ⟨o, a, b, c, m⟩).toList == (encS ⟨o, a, b', c', m'⟩).toList) = false := by
    rw [beq_eq_false_iff_ne, Lib.toList_data, Lib.toList_data]
    exact fun e => hne (enc_inj hi hj (W1.ba_ext e))
  have hTQ : ((arr (textL ⟨o, a, b, c, m⟩)).toList == (arr (textL ⟨o, a, b', c', m'⟩)).toList) = false := by
    rw [beq_eq_false_iff_ne, Lib.toList_data, Lib.toList_data, arr_list, arr_list]
    exact fun e => hne (text_inj hi hj e)
  have hpt := parse_text hi
  have HPP := Lib.hid (fun (W : World) (h : LaidI W) => parseP (arr (textL ⟨o, a, b, c, m⟩)) W (by rw [arr_size]; have := text_len hi; omega) h (by
    rw [arr_list, text_trim hi]
    exact idxAny_ascii _ (by rw [arr_size]; have := text_len hi; omega) (fun j b hb => text_ascii hi b (List.mem_of_getElem? hb))))
  rw [arr_list, hpt] at HPP
  rw [hi, hei] at HE
  rw [hi] at HR
  rw [hj, hej] at HEJ
  obtain ⟨si, hsi⟩ : ∃ x, encS ⟨o, a, b, c, m⟩ = x := ⟨_, rfl⟩
  obtain ⟨sj, hsj⟩ : ∃ x, encS ⟨o, a, b', c', m'⟩ = x := ⟨_, rfl⟩
  obtain ⟨ti, hti⟩ : ∃ x, arr (textL ⟨o, a, b, c, m⟩) = x := ⟨_, rfl⟩
  obtain ⟨tj, htj⟩ : ∃ x, arr (textL ⟨o, a, b', c', m'⟩) = x := ⟨_, rfl⟩
  have hnq3 : ti.toList.isEmpty = false := by
    rw [← hti, Lib.toList_data, arr_list]
    cases hh : textL ⟨o, a, b, c, m⟩ with
    | nil => exact absurd hh hne1
    | cons x y => rfl
  have hnq4 : (!ti.toList.isEmpty) = true := by rw [hnq3]; rfl
  simp only [hsi] at HE hde him hsz h0b hEQ
  rw [hsj] at HEJ hEQ
  rw [hti] at HT HPP hTQ
  rw [htj] at HTJ hTQ
  have HDD := Lib.hid (fun (W : World) (h : FormsAt W) => decInP (s ++ si ++ t) s.size W (by rw [ByteArray.size_append, ByteArray.size_append]; omega) h (by rw [ByteArray.size_append, ByteArray.size_append]; omega) true (by rw [hde]; exact hi))
  rw [hde] at HDD
  have HGG := Lib.hid (fun W => W1.get_yes si 4 4 true W (by omega) ⟨.inr (.inr (.inl rfl)), by decide, by omega⟩)
  rw [him] at HGG
  have hz0 : 0 < si.size := by omega
  have hb0 : ((si[0].toNat : Nat) : Int) = o := by
    have h1 : 1 ≤ o := hso.1
    have h2 : o ≤ 30 := hso.2
    rw [h0b]; simp; omega
  have hs8 : ((si.size : Int) == 8) = true := by rw [hsz]; rfl
  have hs8' : (si.size == 8) = true := by rw [hsz]; rfl
  have e1 := fun w => run_string_add_sum (P := Tryd.prog) (w := w) s si (by omega)
  have e2 := fun w => run_string_add_sum (P := Tryd.prog) (w := w) (s ++ si) t (by rw [ByteArray.size_append]; omega)
  have HSZ := Lib.hid hsz
  have hkq : (b == b') = false := beq_eq_false_iff_ne.2 hxk
  clear hne hxk
  have ho1 : 1 ≤ o := hso.1
  have ho2 : o ≤ 30 := hso.2
  clear hsi hsj hti htj hi hj hne1 hbd hso hei hej hde him h0b hpt hsz
  go_enter Tryd.func4, Tryd.ntmps4
  go_wp2_with fail
  refine KS.out.mono ?_; rintro e w1 ⟨rfl, hb⟩
  have K1 := Lib.hid (K0.out.call hb)
  have P1 := Lib.hid (blkKeep P0.out hb)
  have Q1 := Lib.hid (blkKeep Q0.out hb)
  clear hb
  have p0 : w1.cell? ⟨w.heap.size, 0, none⟩ = some (.int .i64 o) := blk_cell P1.out 0
  have p1 : w1.cell? ⟨w.heap.size, 1, none⟩ = some (.int .i64 a) := blk_cell P1.out 1
  have p2 : w1.cell? ⟨w.heap.size, 2, none⟩ = some (.int .i64 b) := blk_cell P1.out 2
  have p3 : w1.cell? ⟨w.heap.size, 3, none⟩ = some (.int .i64 c) := blk_cell P1.out 3
  have p4 : w1.cell? ⟨w.heap.size, 4, none⟩ = some (.int .i64 m) := blk_cell P1.out 4
  have q0 : w1.cell? ⟨w.heap.size + 1, 0, none⟩ = some (.int .i64 o) := blk_cell Q1.out 0
  have q1 : w1.cell? ⟨w.heap.size + 1, 1, none⟩ = some (.int .i64 a) := blk_cell Q1.out 1
  have q2 : w1.cell? ⟨w.heap.size + 1, 2, none⟩ = some (.int .i64 b') := blk_cell Q1.out 2
  have q3 : w1.cell? ⟨w.heap.size + 1, 3, none⟩ = some (.int .i64 c') := blk_cell Q1.out 3
  have q4 : w1.cell? ⟨w.heap.size + 1, 4, none⟩ = some (.int .i64 m') := blk_cell Q1.out 4
  go_wp2_with fail
  refine (HE.out _ K1.out.laid.forms).mono ?_; rintro e w2 ⟨rfl, hb⟩
  have K2 := Lib.hid (K1.out.call hb)
  have P2 := Lib.hid (blkKeep P1.out hb)
  have Q2 := Lib.hid (blkKeep Q1.out hb)
  clear hb p0 p1 p2 p3 p4 q0 q1 q2 q3 q4
  have p0 : w2.cell? ⟨w.heap.size, 0, none⟩ = some (.int .i64 o) := blk_cell P2.out 0
  have p1 : w2.cell? ⟨w.heap.size, 1, none⟩ = some (.int .i64 a) := blk_cell P2.out 1
  have p2 : w2.cell? ⟨w.heap.size, 2, none⟩ = some (.int .i64 b) := blk_cell P2.out 2
  have p3 : w2.cell? ⟨w.heap.size, 3, none⟩ = some (.int .i64 c) := blk_cell P2.out 3
  have p4 : w2.cell? ⟨w.heap.size, 4, none⟩ = some (.int .i64 m) := blk_cell P2.out 4
  go_wp2_with fail
  refine (HT.out _ K2.out.laid).mono ?_; rintro e w3 ⟨rfl, hb⟩
  have K3 := Lib.hid (K2.out.call hb)
  have P3 := Lib.hid (blkKeep P2.out hb)
  have Q3 := Lib.hid (blkKeep Q2.out hb)
  clear hb p0 p1 p2 p3 p4
  have p0 : w3.cell? ⟨w.heap.size, 0, none⟩ = some (.int .i64 o) := blk_cell P3.out 0
  have p1 : w3.cell? ⟨w.heap.size, 1, none⟩ = some (.int .i64 a) := blk_cell P3.out 1
  have p2 : w3.cell? ⟨w.heap.size, 2, none⟩ = some (.int .i64 b) := blk_cell P3.out 2
  have p3 : w3.cell? ⟨w.heap.size, 3, none⟩ = some (.int .i64 c) := blk_cell P3.out 3
  have p4 : w3.cell? ⟨w.heap.size, 4, none⟩ = some (.int .i64 m) := blk_cell P3.out 4
  go_wp2_with fail
  refine (HR.out _ K3.out.laid.forms).mono ?_; rintro e w4 ⟨rfl, hb⟩
  have K4 := Lib.hid (K3.out.call hb)
  have P4 := Lib.hid (blkKeep P3.out hb)
  have Q4 := Lib.hid (blkKeep Q3.out hb)
  clear hb p0 p1 p2 p3 p4
  have q0 : w4.cell? ⟨w.heap.size + 1, 0, none⟩ = some (.int .i64 o) := blk_cell Q4.out 0
  have q1 : w4.cell? ⟨w.heap.size + 1, 1, none⟩ = some (.int .i64 a) := blk_cell Q4.out 1
  have q2 : w4.cell? ⟨w.heap.size + 1, 2, none⟩ = some (.int .i64 b') := blk_cell Q4.out 2
  have q3 : w4.cell? ⟨w.heap.size + 1, 3, none⟩ = some (.int .i64 c') := blk_cell Q4.out 3
  have q4 : w4.cell? ⟨w.heap.size + 1, 4, none⟩ = some (.int .i64 m') := blk_cell Q4.out 4
  go_wp2_with fail
  refine (HEJ.out _ K4.out.laid.forms).mono ?_; rintro e w5 ⟨rfl, hb⟩
  have K5 := Lib.hid (K4.out.call hb)
  have P5 := Lib.hid (blkKeep P4.out hb)
  have Q5 := Lib.hid (blkKeep Q4.out hb)
  clear hb q0 q1 q2 q3 q4
  go_wp2_with fail
  refine (HDD.out _ K5.out.laid.forms).mono ?_; rintro e w6 ⟨rfl, hb⟩
  have K6 := Lib.hid ((K5.out.call hb).alloc (.cells #[.int .i64 o, .int .i64 a, .int .i64 b, .int .i64 c, .int .i64 m] 23))
  have P6 := Lib.hid (blkNew (blkKeep P5.out hb) (.cells #[.int .i64 o, .int .i64 a, .int .i64 b, .int .i64 c, .int .i64 m] 23))
  have Q6 := Lib.hid (blkNew (blkKeep Q5.out hb) (.cells #[.int .i64 o, .int .i64 a, .int .i64 b, .int .i64 c, .int .i64 m] 23))
  have R6 := Lib.hid (block_new w6 (.cells #[.int .i64 o, .int .i64 a, .int .i64 b, .int .i64 c, .int .i64 m] 23))
  clear hb
  simp only [insV, if_true]
  go_wp2_with fail
  refine (HPP.out _ K6.out.laid).mono ?_; rintro e w7 ⟨rfl, hb⟩
  have K7 := Lib.hid ((K6.out.call hb).alloc (.cells #[.int .i64 o, .int .i64 a, .int .i64 b, .int .i64 c, .int .i64 m] 23))
  have P7 := Lib.hid (blkNew (blkKeep P6.out hb) (.cells #[.int .i64 o, .int .i64 a, .int .i64 b, .int .i64 c, .int .i64 m] 23))
  have Q7 := Lib.hid (blkNew (blkKeep Q6.out hb) (.cells #[.int .i64 o, .int .i64 a, .int .i64 b, .int .i64 c, .int .i64 m] 23))
  have R7 := Lib.hid (blkNew (blkKeep R6.out hb) (.cells #[.int .i64 o, .int .i64 a, .int .i64 b, .int .i64 c, .int .i64 m] 23))
  have U7 := Lib.hid (block_new w7 (.cells #[.int .i64 o, .int .i64 a, .int .i64 b, .int .i64 c, .int .i64 m] 23))
  clear hb
  simp only [insV]
  go_wp2_with fail
  refine (HGG.out _).mono ?_; rintro e w' ⟨rfl, rfl⟩
  go_wp2_with fail
  have hS0 : (fun W' : World => W'.cell? ⟨w.heap.size, 0, none⟩ = some (.int .i64 o) ∧ W'.cell? ⟨w.heap.size, 1, none⟩ = some (.int .i64 a) ∧ W'.cell? ⟨w.heap.size, 2, none⟩ = some (.int .i64 b) ∧ W'.cell? ⟨w.heap.size, 3, none⟩ = some (.int .i64 c) ∧ W'.cell? ⟨w.heap.size, 4, none⟩ = some (.int .i64 m) ∧ W'.cell? ⟨w.heap.size + 1, 0, none⟩ = some (.int .i64 o) ∧ W'.cell? ⟨w.heap.size + 1, 1, none⟩ = some (.int .i64 a) ∧ W'.cell? ⟨w.heap.size + 1, 2, none⟩ = some (.int .i64 b') ∧ W'.cell? ⟨w.heap.size + 1, 3, none⟩ = some (.int .i64 c') ∧ W'.cell? ⟨w.heap.size + 1, 4, none⟩ = some (.int .i64 m') ∧ W'.cell? ⟨w6.heap.size, 0, none⟩ = some (.int .i64 o) ∧ W'.cell? ⟨w6.heap.size, 1, none⟩ = some (.int .i64 a) ∧ W'.cell? ⟨w6.heap.size, 2, none⟩ = some (.int .i64 b) ∧ W'.cell? ⟨w6.heap.size, 3, none⟩ = some (.int .i64 c) ∧ W'.cell? ⟨w6.heap.size, 4, none⟩ = some (.int .i64 m) ∧ W'.cell? ⟨w7.heap.size, 0, none⟩ = some (.int .i64 o) ∧ W'.cell? ⟨w7.heap.size, 1, none⟩ = some (.int .i64 a) ∧ W'.cell? ⟨w7.heap.size, 2, none⟩ = some (.int .i64 b) ∧ W'.cell? ⟨w7.heap.size, 3, none⟩ = some (.int .i64 c) ∧ W'.cell? ⟨w7.heap.size, 4, none⟩ = some (.int .i64 m)) (w7.alloc (.cells #[.int .i64 o, .int .i64 a, .int .i64 b, .int .i64 c, .int .i64 m] 23)) :=
    ⟨blk_cell P7.out 0, blk_cell P7.out 1, blk_cell P7.out 2, blk_cell P7.out 3, blk_cell P7.out 4, blk_cell Q7.out 0, blk_cell Q7.out 1, blk_cell Q7.out 2, blk_cell Q7.out 3, blk_cell Q7.out 4, blk_cell R7.out 0, blk_cell R7.out 1, blk_cell R7.out 2, blk_cell R7.out 3, blk_cell R7.out 4, blk_cell U7.out 0, blk_cell U7.out 1, blk_cell U7.out 2, blk_cell U7.out 3, blk_cell U7.out 4⟩
  have HS0 := Lib.hid hS0
  have K7d := Lib.hid (K7.out.call ((Below.refl _ _).drew))
  clear hS0
  have hwo : IntKind.i64.wrap o = o := IntWalk.i64_in _ (by omega)
  go_region_held3 (fun W' : World => W'.cell? ⟨w.heap.size, 0, none⟩ = some (.int .i64 o) ∧ W'.cell? ⟨w.heap.size, 1, none⟩ = some (.int .i64 a) ∧ W'.cell? ⟨w.heap.size, 2, none⟩ = some (.int .i64 b) ∧ W'.cell? ⟨w.heap.size, 3, none⟩ = some (.int .i64 c) ∧ W'.cell? ⟨w.heap.size, 4, none⟩ = some (.int .i64 m) ∧ W'.cell? ⟨w.heap.size + 1, 0, none⟩ = some (.int .i64 o) ∧ W'.cell? ⟨w.heap.size + 1, 1, none⟩ = some (.int .i64 a) ∧ W'.cell? ⟨w.heap.size + 1, 2, none⟩ = some (.int .i64 b') ∧ W'.cell? ⟨w.heap.size + 1, 3, none⟩ = some (.int .i64 c') ∧ W'.cell? ⟨w.heap.size + 1, 4, none⟩ = some (.int .i64 m') ∧ W'.cell? ⟨w6.heap.size, 0, none⟩ = some (.int .i64 o) ∧ W'.cell? ⟨w6.heap.size, 1, none⟩ = some (.int .i64 a) ∧ W'.cell? ⟨w6.heap.size, 2, none⟩ = some (.int .i64 b) ∧ W'.cell? ⟨w6.heap.size, 3, none⟩ = some (.int .i64 c) ∧ W'.cell? ⟨w6.heap.size, 4, none⟩ = some (.int .i64 m) ∧ W'.cell? ⟨w7.heap.size, 0, none⟩ = some (.int .i64 o) ∧ W'.cell? ⟨w7.heap.size, 1, none⟩ = some (.int .i64 a) ∧ W'.cell? ⟨w7.heap.size, 2, none⟩ = some (.int .i64 b) ∧ W'.cell? ⟨w7.heap.size, 3, none⟩ = some (.int .i64 c) ∧ W'.cell? ⟨w7.heap.size, 4, none⟩ = some (.int .i64 m))
    (first | exact HS0.out | exact HSx.out)
    (first
      | (go_at_call 17; (with_reducible refine (HTJ.out _ K7d.out.laid).mono ?_); rintro e w8 ⟨rfl, hb⟩; have HSx := Lib.hid (keep20 hb HS0.out); have HBx := Lib.hid (K7d.out.call hb).below; clear hb))
  have HF : Hid (Goal w (.returned (.bool true)) w8) := Lib.hid ⟨rfl, HBx.out⟩
  go_wp2_with fail
  go_ret
  exact HF.out
end Go.Proofs.YtijcdhkojidgeaaDoor.isaBack
