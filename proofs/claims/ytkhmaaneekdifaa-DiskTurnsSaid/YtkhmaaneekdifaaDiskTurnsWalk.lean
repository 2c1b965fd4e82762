/-
  The walk of the law DiskTurns.
-/
import Derived.Test.YtkhmaaneekdifaaDp
import Derived.Test.YtkhmaaneekdifaaDsm
import Derived.Test.YtkhmaaneekdifaaDop
namespace Go.Proofs.Ytkhmaaneekdifaa.diskTurns
set_option linter.unusedVariables false
set_option linter.unusedSimpArgs false
open Go.RowKit

/-- Files 3 and 4 hold these bytes durably, and these writes are pending. -/
def st (a b : ByteArray) (l : List Pc) : Dk := ⟨[bs [], bs [], bs [], a, b, bs [], bs [], bs []], l, false, 0, 0, []⟩
theorem calm (a b : ByteArray) (l : List Pc) : Calm (st a b l) := ⟨rfl, rfl⟩
theorem st0 : dk0 = st (bs []) (bs []) [] := rfl
theorem d3 (a b : ByteArray) (l : List Pc) : (st a b l).d 3 = a := rfl
theorem d4 (a b : ByteArray) (l : List Pc) : (st a b l).d 4 = b := rfl
theorem filt3 (m a : Nat) (s : ByteArray) : (pcs 3 m a s).filter (fun p => !decide (p.f = 3)) = [] := by
  rw [List.filter_eq_nil_iff]; intro p hp
  simp [(pcs_ok 3 m a s p hp).1]
theorem filt4 (m a : Nat) (s : ByteArray) : (pcs 4 m a s).filter (fun p => !decide (p.f = 4)) = [] := by
  rw [List.filter_eq_nil_iff]; intro p hp
  simp [(pcs_ok 4 m a s p hp).1]
theorem write3 (e : ByteArray) (h : e.size ≤ 50000) : dk0.write 3 0 e = (0, st (bs []) (bs []) (pcs 3 e.size 0 e)) := (calm _ _ _).write (f := 3) (a := 0) e (by omega) (by omega)
theorem flush3 (e : ByteArray) : (st (bs []) (bs []) (pcs 3 e.size 0 e)).flush 3 = (0, st e (bs []) []) := by
  refine ((calm _ _ _).flush (f := 3) (by omega) rfl).trans ?_
  have h : (st (bs []) (bs []) (pcs 3 e.size 0 e)).bytes 3 = e := by
    unfold Dk.bytes; rw [d3]; exact fileL_new 3 e
  rw [h]
  unfold Dk.settle st
  simp only [filt3]
  rfl
theorem write4 (e n : ByteArray) (h : n.size ≤ 50000) : (st e (bs []) []).write 4 0 n = (0, st e (bs []) (pcs 4 n.size 0 n)) := (calm _ _ _).write (f := 4) (a := 0) n (by omega) (by omega)
theorem flush4 (e n : ByteArray) : (st e (bs []) (pcs 4 n.size 0 n)).flush 4 = (0, st e n []) := by
  refine ((calm _ _ _).flush (f := 4) (by omega) rfl).trans ?_
  have h : (st e (bs []) (pcs 4 n.size 0 n)).bytes 4 = n := by
    unfold Dk.bytes; rw [d4]; exact fileL_new 4 n
  rw [h]
  unfold Dk.settle st
  simp only [filt4]
  rfl
theorem turn_ok (e n : ByteArray) : (st e n []).turn 3 4 = (0, st n (bs []) []) := (calm _ _ _).turn (f := 3) (g := 4) (by omega) (by omega) (by omega)
theorem turn_no (e n : ByteArray) (h : 0 < n.size) : (st e (bs []) (pcs 4 n.size 0 n)).turn 3 4 = (11, st e (bs []) (pcs 4 n.size 0 n)) := by
  refine ((calm _ _ _).turn (f := 3) (g := 4) (by omega) (by omega) (by omega)).trans ?_
  rw [if_pos]
  unfold Dk.pending
  rw [List.any_eq_true]
  show ∃ x ∈ pcs 4 n.size 0 n, _
  rw [pcs_step 4 0 n h]
  exact ⟨_, List.mem_cons_self .., by simp⟩
theorem after (a b : ByteArray) (l : List Pc) (keep : List Int) : (((st a b l).crash keep).start).down = false := rfl
theorem read3 (a b : ByteArray) (l : List Pc) (keep : List Int) (h : ∀ p ∈ l, p.f ≠ 3) : ((st a b l).crash keep).start.read 3 = (a, 0) := by
  refine (read_of _ 3 (by omega) (after a b l keep)).trans ?_
  rw [crash_bytes _ rfl _ 3 (by omega), d3, fileL_none, bs_data]
  intro p hp
  obtain ⟨q, hq, h1, _⟩ := keptN_mem keep l _ (Nat.le_refl _) p hp
  rw [h1]; exact h q hq
theorem size4 (a b : ByteArray) (keep : List Int) : ((st a b []).crash keep).start.size 4 = b.size := by
  refine (size_of _ 4 (by omega)).trans ?_
  rw [crash_bytes _ rfl _ 4 (by omega), d4, show kept keep (st a b []).pend = [] from rfl, fileL_nil, bs_data]
theorem size4_le (a n : ByteArray) (keep : List Int) : ((st a (bs []) (pcs 4 n.size 0 n)).crash keep).start.size 4 ≤ n.size := by
  refine Nat.le_trans (Nat.le_of_eq (size_of _ 4 (by omega))) ?_
  rw [crash_bytes _ rfl _ 4 (by omega), d4, bs_size]
  refine fileL_le _ _ _ _ (Nat.zero_le _) fun p hp => ?_
  obtain ⟨q, hq, h1, h2, h3, h4⟩ := keptN_mem keep _ _ (Nat.le_refl _) p hp
  have := pcs_ok 4 n.size 0 n q hq
  omega

set_option maxRecDepth 100000 in
set_option maxHeartbeats 8000000 in
theorem walk (W : World) (a0 a1 : ByteArray) (a2 : Int) (v3 : Value) (l : List Int) (w0 : a0.size ≤ maxLen) (w1 : a1.size ≤ maxLen) (w2 : (Lit.int .i64 a2).wf = true) (w3 : IRow W W.heap.size v3 l ∧ ∀ z ∈ l, -9223372036854775808 ≤ z ∧ z ≤ 9223372036854775807) :
    Calls Try.prog 6 #[.string a0, .string a1, .int .i64 a2, v3] W fun e w' => e = .returned (.bool true) ∧ Below W.heap.size W w' := by
  unfold maxLen at w0 w1
  replace w2 := int_wf w2
  replace w3 := w3.1
  have HS := Lib.hid (small6 W)
  have HK : Hid (∀ w', Below W.heap.size W w' → IRow w' w'.heap.size v3 l) := Lib.hid fun w' hb => w3.keep hb
  clear w3
  by_cases hsz : 50000 < a0.size ∨ 50000 < a1.size
  · have g : (50000 < a0.size) ∨ (¬ 50000 < a0.size ∧ 50000 < a1.size) := by omega
    clear hsz
    rcases g with g | ⟨g, g'⟩
    · have g1 : decide (50000 < (a0.size : Int)) = true := by rw [decide_eq_true_iff]; omega
      go_enter Try.func6, Try.ntmps6
      go_wp2_with fail
      refine HS.out.mono ?_; rintro e w2 ⟨rfl, hb2⟩
      have HN := Lib.hid (dNew w2)
      have HB2 := Lib.hid hb2
      clear hb2
      go_wp2_with fail
      refine HN.out.mono ?_; rintro e w3 ⟨d, rfl, h3⟩
      have HF := Lib.hid (h3.base HB2.out).2
      clear h3
      go_wp2_with fail
      go_ret
      exact ⟨rfl, HF.out⟩
    · have g1 : decide (50000 < (a0.size : Int)) = false := by rw [decide_eq_false_iff_not]; omega
      have g2 : decide (50000 < (a1.size : Int)) = true := by rw [decide_eq_true_iff]; omega
      go_enter Try.func6, Try.ntmps6
      go_wp2_with fail
      refine HS.out.mono ?_; rintro e w2 ⟨rfl, hb2⟩
      have HN := Lib.hid (dNew w2)
      have HB2 := Lib.hid hb2
      clear hb2
      go_wp2_with fail
      refine HN.out.mono ?_; rintro e w3 ⟨d, rfl, h3⟩
      have HF := Lib.hid (h3.base HB2.out).2
      clear h3
      go_wp2_with fail
      go_ret
      exact ⟨rfl, HF.out⟩
  · have g1 : decide (50000 < (a0.size : Int)) = false := by rw [decide_eq_false_iff_not]; omega
    have g2 : decide (50000 < (a1.size : Int)) = false := by rw [decide_eq_false_iff_not]; omega
    have HW3 := Lib.hid (write3 a0 (by omega))
    have HW4 := Lib.hid (write4 a0 a1 (by omega))
    have hcase : a2 = 0 ∨ (a2 = 1 ∧ a1.size = 0) ∨ (a2 = 1 ∧ 0 < a1.size) ∨ (a2 ≠ 0 ∧ a2 ≠ 1) := by omega
    rcases hcase with rfl | ⟨rfl, hz⟩ | ⟨rfl, hz⟩ | ⟨hz0, hz1⟩
    · go_enter Try.func6, Try.ntmps6
      go_wp2_with fail
      refine HS.out.mono ?_; rintro e w2 ⟨rfl, hb2⟩
      have HN := Lib.hid (dNew w2)
      have HB2 := Lib.hid hb2
      clear hb2 HS
      go_wp2_with fail
      refine HN.out.mono ?_; rintro e w3 ⟨d, rfl, h3⟩
      have H := Lib.hid (h3.base HB2.out)
      clear h3 HN HB2
      have HC := Lib.hid (dWrite H.out 3 0 a0 (by show (0 : Nat) + _ ≤ _; omega))
      rw [HW3.out] at HC
      go_wp2_with fail
      refine HC.out.mono ?_; rintro e w5 ⟨rfl, h5⟩
      replace H : Hid (Dsk W w5 d (st (bs []) (bs []) (pcs 3 a0.size 0 a0))) := Lib.hid h5; clear h5 HC
      have HC := Lib.hid (dFlush H.out 3)
      rw [flush3] at HC
      go_wp2_with fail
      refine HC.out.mono ?_; rintro e w6 ⟨rfl, h6⟩
      replace H : Hid (Dsk W w6 d (st a0 (bs []) [])) := Lib.hid h6; clear h6 HC
      have HC := Lib.hid (dTurn H.out 3 4)
      rw [turn_ok] at HC
      go_wp2_with fail
      refine HC.out.mono ?_; rintro e w7 ⟨rfl, h7⟩
      replace H : Hid (Dsk W w7 d (st (bs []) (bs []) [])) := Lib.hid h7; clear h7 HC
      have HC := Lib.hid (dCrash H.out v3 l (HK.out _ H.out.2))
      go_wp2_with fail
      refine HC.out.mono ?_; rintro e w8 ⟨rfl, h8⟩
      have H2 := Lib.hid h8; clear h8 HC H
      have HC := Lib.hid (dStart H2.out)
      go_wp2_with fail
      refine HC.out.mono ?_; rintro e w9 ⟨rfl, h9⟩
      have H3 := Lib.hid h9; clear h9 HC H2
      have HC := Lib.hid (dRead H3.out 3)
      rw [read3 _ _ _ _ (by intro p hp; cases hp)] at HC
      go_wp2_with fail
      refine HC.out.mono ?_; rintro e w10 ⟨rfl, h10⟩
      have H4 := Lib.hid h10; clear h10 HC H3
      rw [show (bs [] : ByteArray) = { data := #[] } from rfl]
      go_wp2_with fail
      go_ret
      exact ⟨rfl, H4.out.2⟩
    · obtain rfl := ba_nil hz
      clear hz
      have e1 : (bs [] : ByteArray).toList = [] := by rw [Lib.toList_data]; rfl
      go_enter Try.func6, Try.ntmps6
      go_wp2_with fail
      refine HS.out.mono ?_; rintro e w2 ⟨rfl, hb2⟩
      have HN := Lib.hid (dNew w2)
      have HB2 := Lib.hid hb2
      clear hb2 HS
      go_wp2_with fail
      refine HN.out.mono ?_; rintro e w3 ⟨d, rfl, h3⟩
      have H := Lib.hid (h3.base HB2.out)
      clear h3 HN HB2
      have HC := Lib.hid (dWrite H.out 3 0 a0 (by show (0 : Nat) + _ ≤ _; omega))
      rw [HW3.out] at HC
      go_wp2_with fail
      refine HC.out.mono ?_; rintro e w5 ⟨rfl, h5⟩
      replace H : Hid (Dsk W w5 d (st (bs []) (bs []) (pcs 3 a0.size 0 a0))) := Lib.hid h5; clear h5 HC
      have HC := Lib.hid (dFlush H.out 3)
      rw [flush3] at HC
      go_wp2_with fail
      refine HC.out.mono ?_; rintro e w6 ⟨rfl, h6⟩
      replace H : Hid (Dsk W w6 d (st a0 (bs []) [])) := Lib.hid h6; clear h6 HC
      have HC := Lib.hid (dWrite H.out 4 0 (bs []) (by show (0 : Nat) + _ ≤ _; rw [bs_size]; simp))
      rw [HW4.out] at HC
      go_wp2_with fail
      refine HC.out.mono ?_; rintro e w7 ⟨rfl, h7⟩
      replace H : Hid (Dsk W w7 d (st a0 (bs []) [])) := Lib.hid h7; clear h7 HC
      have HC := Lib.hid (dTurn H.out 3 4)
      rw [turn_ok] at HC
      go_wp2_with fail
      refine HC.out.mono ?_; rintro e w8 ⟨rfl, h8⟩
      replace H : Hid (Dsk W w8 d (st (bs []) (bs []) [])) := Lib.hid h8; clear h8 HC
      have HC := Lib.hid (dCrash H.out v3 l (HK.out _ H.out.2))
      go_wp2_with fail
      refine HC.out.mono ?_; rintro e w9 ⟨rfl, h9⟩
      have H2 := Lib.hid h9; clear h9 HC H
      have HC := Lib.hid (dStart H2.out)
      go_wp2_with fail
      refine HC.out.mono ?_; rintro e w10 ⟨rfl, h10⟩
      have H3 := Lib.hid h10; clear h10 HC H2
      have HC := Lib.hid (dRead H3.out 3)
      rw [read3 _ _ _ _ (by intro p hp; cases hp)] at HC
      go_wp2_with fail
      refine HC.out.mono ?_; rintro e w11 ⟨rfl, h11⟩
      have H4 := Lib.hid h11; clear h11 HC H3
      have HC := Lib.hid (dSize H4.out 4)
      rw [size4, bs_size] at HC
      go_wp2_with fail
      refine HC.out.mono ?_; rintro e w12 ⟨rfl, h12⟩
      have H5 := Lib.hid h12; clear h12 HC H4
      go_wp2_with fail
      go_ret
      exact ⟨rfl, H5.out.2⟩
    · have e1 : ¬ a1.toList = [] := fun e => by
        have h : a1.size = 0 := by rw [← dl_len, ← Lib.toList_data, e]; rfl
        omega
      have e2 : a1.toList.isEmpty = false := by
        cases h : a1.toList with
        | nil => exact absurd h e1
        | cons a b => rfl
      have e3 : (!a1.toList.isEmpty) = true := by rw [e2]; rfl
      have HT := Lib.hid (turn_no a0 a1 hz)
      have HSZ := Lib.hid (size4_le a0 a1 l)
      go_enter Try.func6, Try.ntmps6
      go_wp2_with fail
      refine HS.out.mono ?_; rintro e w2 ⟨rfl, hb2⟩
      have HN := Lib.hid (dNew w2)
      have HB2 := Lib.hid hb2
      clear hb2 HS
      go_wp2_with fail
      refine HN.out.mono ?_; rintro e w3 ⟨d, rfl, h3⟩
      have H := Lib.hid (h3.base HB2.out)
      clear h3 HN HB2
      have HC := Lib.hid (dWrite H.out 3 0 a0 (by show (0 : Nat) + _ ≤ _; omega))
      rw [HW3.out] at HC
      go_wp2_with fail
      refine HC.out.mono ?_; rintro e w5 ⟨rfl, h5⟩
      replace H : Hid (Dsk W w5 d (st (bs []) (bs []) (pcs 3 a0.size 0 a0))) := Lib.hid h5; clear h5 HC
      have HC := Lib.hid (dFlush H.out 3)
      rw [flush3] at HC
      go_wp2_with fail
      refine HC.out.mono ?_; rintro e w6 ⟨rfl, h6⟩
      replace H : Hid (Dsk W w6 d (st a0 (bs []) [])) := Lib.hid h6; clear h6 HC
      have HC := Lib.hid (dWrite H.out 4 0 a1 (by show (0 : Nat) + _ ≤ _; omega))
      rw [HW4.out] at HC
      go_wp2_with fail
      refine HC.out.mono ?_; rintro e w7 ⟨rfl, h7⟩
      replace H : Hid (Dsk W w7 d (st a0 (bs []) (pcs 4 a1.size 0 a1))) := Lib.hid h7; clear h7 HC
      have HC := Lib.hid (dTurn H.out 3 4)
      rw [HT.out] at HC
      go_wp2_with fail
      refine HC.out.mono ?_; rintro e w8 ⟨rfl, h8⟩
      replace H : Hid (Dsk W w8 d (st a0 (bs []) (pcs 4 a1.size 0 a1))) := Lib.hid h8; clear h8 HC
      have HC := Lib.hid (dCrash H.out v3 l (HK.out _ H.out.2))
      go_wp2_with fail
      refine HC.out.mono ?_; rintro e w9 ⟨rfl, h9⟩
      have H2 := Lib.hid h9; clear h9 HC H
      have HC := Lib.hid (dStart H2.out)
      go_wp2_with fail
      refine HC.out.mono ?_; rintro e w10 ⟨rfl, h10⟩
      have H3 := Lib.hid h10; clear h10 HC H2
      have HC := Lib.hid (dRead H3.out 3)
      rw [read3 _ _ _ _ (fun p hp => by rw [(pcs_ok 4 _ _ _ p hp).1]; omega)] at HC
      go_wp2_with fail
      refine HC.out.mono ?_; rintro e w11 ⟨rfl, h11⟩
      have H4 := Lib.hid h11; clear h11 HC H3
      have HC := Lib.hid (dSize H4.out 4)
      obtain ⟨Z, hZ⟩ : ∃ Z, ((st a0 (bs []) (pcs 4 a1.size 0 a1)).crash l).start.size 4 = Z := ⟨_, rfl⟩
      rw [hZ] at HC HSZ
      have z1 : (Z : Int) ≤ (a1.size : Int) := by have := HSZ.out; omega
      have z2 : decide ((Z : Int) ≤ (a1.size : Int)) = true := decide_eq_true z1
      clear hZ
      go_wp2_with fail
      refine HC.out.mono ?_; rintro e w12 ⟨rfl, h12⟩
      have H5 := Lib.hid h12; clear h12 HC H4
      go_wp2_with fail
      go_ret
      exact ⟨by first | rfl | (simp; omega), H5.out.2⟩
    · have z0 : (a2 != 0) = true := by simp [hz0]
      have z1 : (a2 != 1) = true := by simp [hz1]
      have z2 : (a2 == 0) = false := by simp [hz0]
      have z3 : (a2 == 1) = false := by simp [hz1]
      go_enter Try.func6, Try.ntmps6
      go_wp2_with fail
      refine HS.out.mono ?_; rintro e w2 ⟨rfl, hb2⟩
      have HN := Lib.hid (dNew w2)
      have HB2 := Lib.hid hb2
      clear hb2 HS
      go_wp2_with fail
      refine HN.out.mono ?_; rintro e w3 ⟨d, rfl, h3⟩
      have H := Lib.hid (h3.base HB2.out)
      clear h3 HN HB2
      have HC := Lib.hid (dWrite H.out 3 0 a0 (by show (0 : Nat) + _ ≤ _; omega))
      rw [HW3.out] at HC
      go_wp2_with fail
      refine HC.out.mono ?_; rintro e w5 ⟨rfl, h5⟩
      replace H : Hid (Dsk W w5 d (st (bs []) (bs []) (pcs 3 a0.size 0 a0))) := Lib.hid h5; clear h5 HC
      have HC := Lib.hid (dFlush H.out 3)
      rw [flush3] at HC
      go_wp2_with fail
      refine HC.out.mono ?_; rintro e w6 ⟨rfl, h6⟩
      replace H : Hid (Dsk W w6 d (st a0 (bs []) [])) := Lib.hid h6; clear h6 HC
      have HC := Lib.hid (dWrite H.out 4 0 a1 (by show (0 : Nat) + _ ≤ _; omega))
      rw [HW4.out] at HC
      go_wp2_with fail
      refine HC.out.mono ?_; rintro e w7 ⟨rfl, h7⟩
      replace H : Hid (Dsk W w7 d (st a0 (bs []) (pcs 4 a1.size 0 a1))) := Lib.hid h7; clear h7 HC
      have HC := Lib.hid (dFlush H.out 4)
      rw [flush4] at HC
      go_wp2_with fail
      refine HC.out.mono ?_; rintro e w13 ⟨rfl, h13⟩
      replace H : Hid (Dsk W w13 d (st a0 a1 [])) := Lib.hid h13; clear h13 HC
      have HC := Lib.hid (dTurn H.out 3 4)
      rw [turn_ok] at HC
      go_wp2_with fail
      refine HC.out.mono ?_; rintro e w8 ⟨rfl, h8⟩
      replace H : Hid (Dsk W w8 d (st a1 (bs []) [])) := Lib.hid h8; clear h8 HC
      have HC := Lib.hid (dCrash H.out v3 l (HK.out _ H.out.2))
      go_wp2_with fail
      refine HC.out.mono ?_; rintro e w9 ⟨rfl, h9⟩
      have H2 := Lib.hid h9; clear h9 HC H
      have HC := Lib.hid (dStart H2.out)
      go_wp2_with fail
      refine HC.out.mono ?_; rintro e w10 ⟨rfl, h10⟩
      have H3 := Lib.hid h10; clear h10 HC H2
      have HC := Lib.hid (dRead H3.out 3)
      rw [read3 _ _ _ _ (by intro p hp; cases hp)] at HC
      go_wp2_with fail
      refine HC.out.mono ?_; rintro e w11 ⟨rfl, h11⟩
      have H4 := Lib.hid h11; clear h11 HC H3
      have HC := Lib.hid (dSize H4.out 4)
      rw [size4, bs_size] at HC
      go_wp2_with fail
      refine HC.out.mono ?_; rintro e w12 ⟨rfl, h12⟩
      have H5 := Lib.hid h12; clear h12 HC H4
      go_wp2_with fail
      go_ret
      exact ⟨rfl, H5.out.2⟩
end Go.Proofs.Ytkhmaaneekdifaa.diskTurns
