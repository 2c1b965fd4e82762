/-
  The walk of the law DiskLoses.
-/
import Derived.Test.YtkhmaaneekdifaaDp
import Derived.Test.YtkhmaaneekdifaaDsm
import Derived.Test.YtkhmaaneekdifaaDop
namespace Go.Proofs.Ytkhmaaneekdifaa.diskLoses
set_option linter.unusedVariables false
set_option linter.unusedSimpArgs false
open Go.RowKit

/-- A disk whose file 0 has been written, and of which m flushes will be lost. -/
def st (s : ByteArray) (m : Nat) : Dk := ⟨List.replicate 8 (bs []), pcs 0 s.size 0 s, false, m, 0, []⟩
theorem calm (s : ByteArray) (m : Nat) : Calm (st s m) := ⟨rfl, rfl⟩
theorem begin_ (s : ByteArray) (n : Int) (h : s.size ≤ 50000) : (dk0.lose n).write 0 0 s = (0, st s n.toNat) := by
  have hc : Calm (dk0.lose n) := ⟨rfl, rfl⟩
  exact hc.write (f := 0) (a := 0) s (by omega) (by omega)
theorem lost (s : ByteArray) (m : Nat) : (st s (m + 1)).flush 0 = (12, st s m) := (calm s (m + 1)).flush_lost (f := 0) (by omega) rfl
theorem st_d (s : ByteArray) (m f : Nat) : (st s m).d f = bs [] := dk0_d f
theorem st_bytes (s : ByteArray) (m : Nat) : (st s m).bytes 0 = s := by
  unfold Dk.bytes
  rw [st_d]
  exact fileL_new 0 s
theorem none_ (s : ByteArray) (m : Nat) : ((st s m).crash []).start.read 0 = (bs [], 0) := by
  have h1 : (((st s m).crash []).start).down = false := rfl
  refine (read_of _ 0 (by omega) h1).trans ?_
  rw [crash_bytes _ rfl _ 0 (by omega), kept_nil, st_d]
  rfl
theorem last (s : ByteArray) : ((st s 0).flush 0).1 = 0 ∧ (((st s 0).flush 0).2.crash []).start.read 0 = (s, 0) := by
  have h := (calm s 0).flush (f := 0) (by omega) rfl
  rw [show ((st s 0).flush 0) = _ from h, st_bytes]
  refine ⟨rfl, ?_⟩
  have hd : ((st s 0).settle 0 s).down = false := rfl
  refine (read_of _ 0 (by omega) rfl).trans ?_
  rw [crash_bytes _ hd _ 0 (by omega), kept_nil, fileL_nil, set_d _ _ _ _ (by simp [st]), if_pos rfl, bs_data]

def LoRel (W : World) (d : Nat) (a0 : ByteArray) (N : Nat) (i : Value) (wl : World) : Prop := ∃ k : Nat, i = .int .i64 k ∧ k ≤ N ∧ Dsk W wl d (st a0 (N - k))
set_option maxRecDepth 100000 in
set_option maxHeartbeats 8000000 in
theorem walk (W : World) (a0 : ByteArray) (a1 : Int) (w0 : a0.size ≤ maxLen) (w1 : (Lit.int .i64 a1).wf = true) :
    Calls Try.prog 7 #[.string a0, .int .i64 a1] W fun e w' => e = .returned (.bool true) ∧ Below W.heap.size W w' := by
  unfold maxLen at w0
  replace w1 := int_wf w1
  have HS := Lib.hid (small6 W)
  by_cases hsz : 50000 < a0.size
  · have g1 : decide (50000 < (a0.size : Int)) = true := by rw [decide_eq_true_iff]; omega
    go_enter Try.func7, Try.ntmps7
    go_wp2_with fail
    refine HS.out.mono ?_; rintro e w2 ⟨rfl, hb2⟩
    have HN := Lib.hid (dNew w2)
    have HB2 := Lib.hid hb2
    clear hb2
    go_wp2_with fail
    refine HN.out.mono ?_; rintro e w3 ⟨d, rfl, h3⟩
    have HF := Lib.hid (h3.base HB2.out).2
    clear h3
    go_wp2_with fail
    go_ret
    exact ⟨rfl, HF.out⟩
  · have g1 : decide (50000 < (a0.size : Int)) = false := by rw [decide_eq_false_iff_not]; omega
    by_cases hn : 20 < a1
    · have g2 : decide (20 < a1) = true := decide_eq_true hn
      go_enter Try.func7, Try.ntmps7
      go_wp2_with fail
      refine HS.out.mono ?_; rintro e w2 ⟨rfl, hb2⟩
      have HN := Lib.hid (dNew w2)
      have HB2 := Lib.hid hb2
      clear hb2
      go_wp2_with fail
      refine HN.out.mono ?_; rintro e w3 ⟨d, rfl, h3⟩
      have HF := Lib.hid (h3.base HB2.out).2
      clear h3
      go_wp2_with fail
      go_ret
      exact ⟨rfl, HF.out⟩
    · have g2 : decide (20 < a1) = false := decide_eq_false hn
      have HWR := Lib.hid (begin_ a0 a1 (by omega))
      have hN : (a1.toNat : Int) = max a1 0 := by omega
      obtain ⟨N, hNN⟩ : ∃ N, a1.toNat = N := ⟨_, rfl⟩
      rw [hNN] at HWR hN
      have HNI := Lib.hid hN
      clear hN hNN
      go_enter Try.func7, Try.ntmps7
      go_wp2_with fail
      refine HS.out.mono ?_; rintro e w2 ⟨rfl, hb2⟩
      have HN := Lib.hid (dNew w2)
      have HB2 := Lib.hid hb2
      clear hb2 HS
      go_wp2_with fail
      refine HN.out.mono ?_; rintro e w3 ⟨d, rfl, h3⟩
      have H := Lib.hid (h3.base HB2.out)
      clear h3 HN HB2
      have HC := Lib.hid (dLose H.out a1 (by omega))
      go_wp2_with fail
      refine HC.out.mono ?_; rintro e w4 ⟨rfl, h4⟩
      replace H := Lib.hid h4; clear h4 HC
      have HC := Lib.hid (dWrite H.out 0 0 a0 (by show (0 : Nat) + _ ≤ _; omega))
      rw [HWR.out] at HC
      clear HWR
      go_wp2_with fail
      refine HC.out.mono ?_; rintro e w5 ⟨rfl, h5⟩
      replace H : Hid (Dsk W w5 d (st a0 N)) := Lib.hid h5; clear h5 HC
      go_wp2_with fail
      go_loopw [7, 8, 9, 10] (fun i _ _ _ wl => LoRel W d a0 N i wl) (fun i _ _ _ _ => N - (intOf i).toNat)
      case atStart => exact ⟨0, rfl, by omega, H.out⟩
      case round =>
        obtain ⟨k, rfl, hk, hD⟩ := hrel
        have H := Lib.hid hD
        clear hD
        obtain ⟨wo, rfl⟩ : ∃ wo : World, wo = wr := ⟨_, rfl⟩
        by_cases hlt : (k : Int) < a1
        · have hkN : k < N := by have := HNI.out; omega
          have hkm : N - k = (N - (k + 1)) + 1 := by omega
          rw [hkm] at H
          obtain ⟨m, hm⟩ : ∃ m, N - (k + 1) = m := ⟨_, rfl⟩
          rw [hm] at H
          have HM := Lib.hid hm
          clear hkm hm
          have HC := Lib.hid (dCopy H.out)
          go_wp2_with fail
          refine HC.out.mono ?_; rintro e w6 ⟨c, rfl, h6⟩
          have T := Lib.hid h6; clear h6 HC
          have HC := Lib.hid (tFlush T.out 0)
          rw [lost] at HC
          go_wp2_with fail
          refine HC.out.mono ?_; rintro e w7 ⟨rfl, h7⟩
          replace T : Hid (Two W w7 d c (st a0 m) (st a0 (m + 1))) := Lib.hid h7; clear h7 HC
          have HC := Lib.hid (tFlush T.out.swap 0)
          rw [lost] at HC
          go_wp2_with fail
          refine HC.out.mono ?_; rintro e w8 ⟨rfl, h8⟩
          replace T : Hid (Two W w8 c d (st a0 m) (st a0 m)) := Lib.hid h8; clear h8 HC
          have HC := Lib.hid (tCrash T.out (.slice none 0 0) [] (irow_nil _ _))
          go_wp2_with fail
          refine HC.out.mono ?_; rintro e w9 ⟨rfl, h9⟩
          have T2 := Lib.hid h9; clear h9 HC T
          have HC := Lib.hid (tStart T2.out)
          go_wp2_with fail
          refine HC.out.mono ?_; rintro e w10 ⟨rfl, h10⟩
          have T3 := Lib.hid h10; clear h10 HC T2
          have HC := Lib.hid (tRead T3.out 0)
          rw [none_] at HC
          go_wp2_with fail
          refine HC.out.mono ?_; rintro e w11 ⟨rfl, h11⟩
          have HD := Lib.hid h11.swap.fst; clear h11 HC T3
          rw [show (bs [] : ByteArray) = { data := #[] } from rfl]
          go_wp2_with fail
          go_roundw
          case rel => exact ⟨k + 1, by go_num, by omega, by rw [HM.out]; exact HD.out⟩
          case measure => simp [intOf]; omega
        · have hkN : N - k = 0 := by have := HNI.out; omega
          rw [hkN] at H
          have HL := Lib.hid (last a0)
          clear hkN
          have HC := Lib.hid (dFlush H.out 0)
          rw [show WPost W d ((st a0 0).flush 0) = fun e w2 => e = .returned (.int .i64 ((st a0 0).flush 0).1) ∧ Dsk W w2 d ((st a0 0).flush 0).2 from rfl, HL.out.1] at HC
          go_wp2_with fail
          refine HC.out.mono ?_; rintro e w6 ⟨rfl, h6⟩
          have H1 := Lib.hid h6; clear h6 HC H
          have HC := Lib.hid (dCrash H1.out (.slice none 0 0) [] (irow_nil _ _))
          go_wp2_with fail
          refine HC.out.mono ?_; rintro e w7 ⟨rfl, h7⟩
          have H2 := Lib.hid h7; clear h7 HC H1
          have HC := Lib.hid (dStart H2.out)
          go_wp2_with fail
          refine HC.out.mono ?_; rintro e w8 ⟨rfl, h8⟩
          have H3 := Lib.hid h8; clear h8 HC H2
          have HC := Lib.hid (dRead H3.out 0)
          rw [HL.out.2] at HC
          go_wp2_with fail
          refine HC.out.mono ?_; rintro e w9 ⟨rfl, h9⟩
          have H4 := Lib.hid h9; clear h9 HC H3
          go_wp2_with fail
          go_ret
          exact ⟨rfl, H4.out.2⟩
end Go.Proofs.Ytkhmaaneekdifaa.diskLoses
