/-
  Layer 6: small().
-/
import Derived.Test.YtlphblnnloigiaaDl0
namespace Go.Proofs.Ytlphblnnloigiaa
set_option linter.unusedVariables false
set_option linter.unusedSimpArgs false
open Go.RowKit

instance : DecidableEq Pc := fun a b => if h : a.f = b.f ∧ a.a = b.a ∧ a.t = b.t then .isTrue (by cases a; cases b; simp_all) else .isFalse (fun e => h (by subst e; exact ⟨rfl, rfl, rfl⟩))
def sm0 : Dk := dk0
def sm1 : Dk := (sm0.write 1 0 ⟨#[104, 101, 108, 108, 111]⟩).2
def sm2 : Dk := (sm1.flush 1).2
def sm3 : Dk := (sm2.write 1 5 ⟨#[121]⟩).2
def sm4 : Dk := (sm3.write 1 8 ⟨#[122]⟩).2
def sm5 : Dk := sm4.crash [1]
def sm6 : Dk := sm5.start
def sm7 : Dk := sm6.lose 1
def sm8 : Dk := (sm7.flush 1).2
def sm9 : Dk := (sm8.write 2 0 ⟨#[120]⟩).2
def sm10 : Dk := (sm9.turn 1 2).2
def sm11 : Dk := (sm10.flush 2).2
def sm12 : Dk := (sm11.turn 1 2).2
def sm13 : Dk := (sm12.write 3 30 ⟨#[97, 98, 99, 100]⟩).2
def sm14 : Dk := sm13.crash [0, 1]
def sm15 : Dk := sm14.start
def sm16 : Dk := (sm15.write 8 0 ⟨#[]⟩).2
def sm17 : Dk := (sm16.write 0 (-1) ⟨#[]⟩).2
def sm18 : Dk := (sm17.cut 1 2).2
theorem sr0 : (sm0.write 1 0 ⟨#[104, 101, 108, 108, 111]⟩).1 = 0 := by decide +kernel
theorem sp0 : sm0.pend.length + (⟨#[104, 101, 108, 108, 111]⟩ : ByteArray).size ≤ 1000000 := by decide +kernel
theorem sr1 : (sm1.flush 1).1 = 0 := by decide +kernel
theorem sr2 : (sm2.write 1 5 ⟨#[121]⟩).1 = 0 := by decide +kernel
theorem sp2 : sm2.pend.length + (⟨#[121]⟩ : ByteArray).size ≤ 1000000 := by decide +kernel
theorem sr3 : (sm3.write 1 8 ⟨#[122]⟩).1 = 0 := by decide +kernel
theorem sp3 : sm3.pend.length + (⟨#[122]⟩ : ByteArray).size ≤ 1000000 := by decide +kernel
theorem sr5 : sm5.read 1 = (⟨#[]⟩, 10) := by decide +kernel
theorem sr6 : sm5.down = true := by decide +kernel
theorem sr8 : sm6.read 1 = (⟨#[104, 101, 108, 108, 111, 121]⟩, 0) := by decide +kernel
theorem sr10 : (sm7.flush 1).1 = 12 := by decide +kernel
theorem sr11 : (sm8.write 2 0 ⟨#[120]⟩).1 = 0 := by decide +kernel
theorem sp11 : sm8.pend.length + (⟨#[120]⟩ : ByteArray).size ≤ 1000000 := by decide +kernel
theorem sr12 : (sm9.turn 1 2).1 = 11 := by decide +kernel
theorem sr13 : (sm10.flush 2).1 = 0 := by decide +kernel
theorem sr14 : (sm11.turn 1 2).1 = 0 := by decide +kernel
theorem sr15 : sm12.read 1 = (⟨#[120]⟩, 0) := by decide +kernel
theorem sr16 : (sm12.write 3 30 ⟨#[97, 98, 99, 100]⟩).1 = 0 := by decide +kernel
theorem sp16 : sm12.pend.length + (⟨#[97, 98, 99, 100]⟩ : ByteArray).size ≤ 1000000 := by decide +kernel
theorem sr19 : sm15.read 3 = (⟨#[0, 0, 0, 0, 0, 0, 0, 0, 0, 0, 0, 0, 0, 0, 0, 0, 0, 0, 0, 0, 0, 0, 0, 0, 0, 0, 0, 0, 0, 0, 0, 0, 99, 100]⟩, 0) := by decide +kernel
theorem sr20 : sm15.size 2 = 0 := by decide +kernel
theorem sr21 : (sm15.write 8 0 ⟨#[]⟩).1 = 1 := by decide +kernel
theorem sp21 : sm15.pend.length + (⟨#[]⟩ : ByteArray).size ≤ 1000000 := by decide +kernel
theorem sr22 : (sm16.write 0 (-1) ⟨#[]⟩).1 = 1 := by decide +kernel
theorem sp22 : sm16.pend.length + (⟨#[]⟩ : ByteArray).size ≤ 1000000 := by decide +kernel
theorem sr23 : (sm17.cut 1 2).1 = 1 := by decide +kernel
theorem u34 : ∃ U : ByteArray, (⟨#[0, 0, 0, 0, 0, 0, 0, 0, 0, 0, 0, 0, 0, 0, 0, 0, 0, 0, 0, 0, 0, 0, 0, 0, 0, 0, 0, 0, 0, 0, 0, 0, 99, 100]⟩ : ByteArray) = U ∧ U.size = 34 ∧ U.extract 32 34 = ⟨#[99, 100]⟩ ∧ (∀ h : 0 < U.size, U[0] = 0) ∧ (∀ h : 31 < U.size, U[31] = 0) := ⟨_, rfl, by decide +kernel, by decide +kernel, fun _ => rfl, fun _ => rfl⟩
set_option maxRecDepth 100000 in
set_option maxHeartbeats 8000000 in
theorem small6 (w : World) : Calls Try.prog 4 #[] w fun e w' => e = .returned (.bool true) ∧ Below w.heap.size w w' := by
  have HC := Lib.hid (dNew w)
  go_enter Try.func4, Try.ntmps4
  go_wp2_with fail
  refine HC.out.mono ?_; rintro e w2 ⟨d, rfl, h2⟩
  have H : Hid (Dsk w w2 d sm0) := Lib.hid h2
  clear h2 HC
  have HC := Lib.hid (dWrite H.out 1 0 ⟨#[104, 101, 108, 108, 111]⟩ sp0)
  rw [show WPost w d (sm0.write 1 0 ⟨#[104, 101, 108, 108, 111]⟩) = fun e w2 => e = .returned (.int .i64 (sm0.write 1 0 ⟨#[104, 101, 108, 108, 111]⟩).1) ∧ Dsk w w2 d sm1 from rfl, sr0] at HC
  go_wp2_with fail
  refine HC.out.mono ?_; rintro e w2 ⟨rfl, h2⟩
  replace H := Lib.hid h2; clear h2 HC
  have HC := Lib.hid (dFlush H.out 1)
  rw [show WPost w d (sm1.flush 1) = fun e w2 => e = .returned (.int .i64 (sm1.flush 1).1) ∧ Dsk w w2 d sm2 from rfl, sr1] at HC
  go_wp2_with fail
  refine HC.out.mono ?_; rintro e w2 ⟨rfl, h2⟩
  replace H := Lib.hid h2; clear h2 HC
  have HC := Lib.hid (dWrite H.out 1 5 ⟨#[121]⟩ sp2)
  rw [show WPost w d (sm2.write 1 5 ⟨#[121]⟩) = fun e w2 => e = .returned (.int .i64 (sm2.write 1 5 ⟨#[121]⟩).1) ∧ Dsk w w2 d sm3 from rfl, sr2] at HC
  go_wp2_with fail
  refine HC.out.mono ?_; rintro e w2 ⟨rfl, h2⟩
  replace H := Lib.hid h2; clear h2 HC
  have HC := Lib.hid (dWrite H.out 1 8 ⟨#[122]⟩ sp3)
  rw [show WPost w d (sm3.write 1 8 ⟨#[122]⟩) = fun e w2 => e = .returned (.int .i64 (sm3.write 1 8 ⟨#[122]⟩).1) ∧ Dsk w w2 d sm4 from rfl, sr3] at HC
  go_wp2_with fail
  refine HC.out.mono ?_; rintro e w2 ⟨rfl, h2⟩
  replace H := Lib.hid h2; clear h2 HC
  have HC := Lib.hid (dCrash (H.out.below (below_new _ (.cells #[.int .i64 1] 3))) _ [1] (irow_new1 _ 1))
  go_wp2_with fail
  refine HC.out.mono ?_; rintro e w2 ⟨rfl, h2⟩
  replace H : Hid (Dsk w w2 d sm5) := Lib.hid h2; clear h2 HC
  have HC := Lib.hid (dRead H.out 1)
  rw [sr5] at HC
  go_wp2_with fail
  refine HC.out.mono ?_; rintro e w2 ⟨rfl, h2⟩
  replace H : Hid (Dsk w w2 d sm5) := Lib.hid h2; clear h2 HC
  have HC := Lib.hid (dDown H.out)
  rw [sr6] at HC
  go_wp2_with fail
  refine HC.out.mono ?_; rintro e w3 ⟨rfl, rfl⟩
  clear HC
  have HC := Lib.hid (dStart H.out)
  go_wp2_with fail
  refine HC.out.mono ?_; rintro e w2 ⟨rfl, h2⟩
  replace H : Hid (Dsk w w2 d sm6) := Lib.hid h2; clear h2 HC
  have HC := Lib.hid (dRead H.out 1)
  rw [sr8] at HC
  go_wp2_with fail
  refine HC.out.mono ?_; rintro e w2 ⟨rfl, h2⟩
  replace H : Hid (Dsk w w2 d sm6) := Lib.hid h2; clear h2 HC
  have HC := Lib.hid (dLose H.out 1 (by omega))
  go_wp2_with fail
  refine HC.out.mono ?_; rintro e w2 ⟨rfl, h2⟩
  replace H : Hid (Dsk w w2 d sm7) := Lib.hid h2; clear h2 HC
  have HC := Lib.hid (dFlush H.out 1)
  rw [show WPost w d (sm7.flush 1) = fun e w2 => e = .returned (.int .i64 (sm7.flush 1).1) ∧ Dsk w w2 d sm8 from rfl, sr10] at HC
  go_wp2_with fail
  refine HC.out.mono ?_; rintro e w2 ⟨rfl, h2⟩
  replace H := Lib.hid h2; clear h2 HC
  have HC := Lib.hid (dWrite H.out 2 0 ⟨#[120]⟩ sp11)
  rw [show WPost w d (sm8.write 2 0 ⟨#[120]⟩) = fun e w2 => e = .returned (.int .i64 (sm8.write 2 0 ⟨#[120]⟩).1) ∧ Dsk w w2 d sm9 from rfl, sr11] at HC
  go_wp2_with fail
  refine HC.out.mono ?_; rintro e w2 ⟨rfl, h2⟩
  replace H := Lib.hid h2; clear h2 HC
  have HC := Lib.hid (dTurn H.out 1 2)
  rw [show WPost w d (sm9.turn 1 2) = fun e w2 => e = .returned (.int .i64 (sm9.turn 1 2).1) ∧ Dsk w w2 d sm10 from rfl, sr12] at HC
  go_wp2_with fail
  refine HC.out.mono ?_; rintro e w2 ⟨rfl, h2⟩
  replace H := Lib.hid h2; clear h2 HC
  have HC := Lib.hid (dFlush H.out 2)
  rw [show WPost w d (sm10.flush 2) = fun e w2 => e = .returned (.int .i64 (sm10.flush 2).1) ∧ Dsk w w2 d sm11 from rfl, sr13] at HC
  go_wp2_with fail
  refine HC.out.mono ?_; rintro e w2 ⟨rfl, h2⟩
  replace H := Lib.hid h2; clear h2 HC
  have HC := Lib.hid (dTurn H.out 1 2)
  rw [show WPost w d (sm11.turn 1 2) = fun e w2 => e = .returned (.int .i64 (sm11.turn 1 2).1) ∧ Dsk w w2 d sm12 from rfl, sr14] at HC
  go_wp2_with fail
  refine HC.out.mono ?_; rintro e w2 ⟨rfl, h2⟩
  replace H := Lib.hid h2; clear h2 HC
  have HC := Lib.hid (dRead H.out 1)
  rw [sr15] at HC
  go_wp2_with fail
  refine HC.out.mono ?_; rintro e w2 ⟨rfl, h2⟩
  replace H : Hid (Dsk w w2 d sm12) := Lib.hid h2; clear h2 HC
  have HC := Lib.hid (dWrite H.out 3 30 ⟨#[97, 98, 99, 100]⟩ sp16)
  rw [show WPost w d (sm12.write 3 30 ⟨#[97, 98, 99, 100]⟩) = fun e w2 => e = .returned (.int .i64 (sm12.write 3 30 ⟨#[97, 98, 99, 100]⟩).1) ∧ Dsk w w2 d sm13 from rfl, sr16] at HC
  go_wp2_with fail
  refine HC.out.mono ?_; rintro e w2 ⟨rfl, h2⟩
  replace H := Lib.hid h2; clear h2 HC
  have HC := Lib.hid (dCrash (H.out.below (below_new _ (.cells #[.int .i64 0, .int .i64 1] 3))) _ [0, 1] (irow_new2 _ 0 1))
  go_wp2_with fail
  refine HC.out.mono ?_; rintro e w2 ⟨rfl, h2⟩
  replace H : Hid (Dsk w w2 d sm14) := Lib.hid h2; clear h2 HC
  have HC := Lib.hid (dStart H.out)
  go_wp2_with fail
  refine HC.out.mono ?_; rintro e w2 ⟨rfl, h2⟩
  replace H : Hid (Dsk w w2 d sm15) := Lib.hid h2; clear h2 HC
  have HC := Lib.hid (dRead H.out 3)
  rw [sr19] at HC
  obtain ⟨U, hU, hU1, hU2, hU3, hU4⟩ := u34
  simp only [hU] at HC
  go_wp2_with fail
  refine HC.out.mono ?_; rintro e w2 ⟨rfl, h2⟩
  replace H : Hid (Dsk w w2 d sm15) := Lib.hid h2; clear h2 HC hU
  have HC := Lib.hid (dSize H.out 2)
  rw [sr20] at HC
  go_wp2_with fail
  refine HC.out.mono ?_; rintro e w2 ⟨rfl, h2⟩
  replace H : Hid (Dsk w w2 d sm15) := Lib.hid h2; clear h2 HC
  have HC := Lib.hid (dWrite H.out 8 0 ⟨#[]⟩ sp21)
  rw [show WPost w d (sm15.write 8 0 ⟨#[]⟩) = fun e w2 => e = .returned (.int .i64 (sm15.write 8 0 ⟨#[]⟩).1) ∧ Dsk w w2 d sm16 from rfl, sr21] at HC
  go_wp2_with fail
  refine HC.out.mono ?_; rintro e w2 ⟨rfl, h2⟩
  replace H := Lib.hid h2; clear h2 HC
  have HC := Lib.hid (dWrite H.out 0 (-1) ⟨#[]⟩ sp22)
  rw [show WPost w d (sm16.write 0 (-1) ⟨#[]⟩) = fun e w2 => e = .returned (.int .i64 (sm16.write 0 (-1) ⟨#[]⟩).1) ∧ Dsk w w2 d sm17 from rfl, sr22] at HC
  go_wp2_with fail
  refine HC.out.mono ?_; rintro e w2 ⟨rfl, h2⟩
  replace H := Lib.hid h2; clear h2 HC
  have HC := Lib.hid (dCut H.out 1 2)
  rw [show WPost w d (sm17.cut 1 2) = fun e w2 => e = .returned (.int .i64 (sm17.cut 1 2).1) ∧ Dsk w w2 d sm18 from rfl, sr23] at HC
  go_wp2_with fail
  refine HC.out.mono ?_; rintro e w2 ⟨rfl, h2⟩
  replace H := Lib.hid h2; clear h2 HC
  go_wp2_with fail
  go_ret
  exact ⟨rfl, H.out.2⟩
end Go.Proofs.Ytlphblnnloigiaa
