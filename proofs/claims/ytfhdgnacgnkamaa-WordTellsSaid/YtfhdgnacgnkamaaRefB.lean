/-
  Contracts of the reference of package word, continued: Fits, Down, Up, Power.
-/
import Derived.Test.YtfhdgnacgnkamaaRef

namespace Go.Proofs.Ytfhdgnacgnkamaa
set_option linter.unusedVariables false
set_option linter.unusedSimpArgs false
open Go.RowKit
theorem rfits_any (n b : Int) (g : Bool) (w : World) (hn1 : -9223372036854775808 ≤ n) (hn2 : n ≤ 9223372036854775807) :
    Calls Try.prog 14 #[.int .i64 n, .int .i64 b, .bool g] w fun e w' => e = .returned (.bool (fitsB n b g)) ∧ w = w' := by
  by_cases h1 : b < 1
  · have H := Lib.hid (fitsB_out n b g (.inl h1))
    go_enter Try.func14, Try.ntmps14
    go_wp2
    go_ret
    exact ⟨by rw [H.out]; rfl, rfl⟩
  · by_cases h2 : 64 < b
    · have H := Lib.hid (fitsB_out n b g (.inr h2))
      go_enter Try.func14, Try.ntmps14
      go_wp2
      go_ret
      exact ⟨by rw [H.out]; rfl, rfl⟩
    · cases g
      · have H := Lib.hid (fitsB_uns n b (by omega) (by omega))
        by_cases h3 : 63 ≤ b
        · have hd : (decide (0 ≤ n) && n / 2 ^ b.toNat == 0) = decide (0 ≤ n) := by
            by_cases h0 : 0 ≤ n
            · have h4 := pow_le' 63 b.toNat (by omega)
              rw [fits_nonneg n _ (pow_pos' _) h0]
              have : n < 2 ^ b.toNat := by omega
              simp [h0, this]
            · simp [h0]
          have HD := Lib.hid hd
          clear hd
          go_enter Try.func14, Try.ntmps14
          go_wp2
          go_ret
          exact ⟨by rw [H.out, HD.out]; rfl, rfl⟩
        · obtain ⟨P, hP⟩ : ∃ P : Int, (2 : Int) ^ b.toNat = P := ⟨_, rfl⟩
          have hP1 : 1 ≤ P := by rw [← hP]; exact pow_pos' _
          have hP2 : P ≤ 4611686018427387904 := by rw [← hP]; exact pow_le' _ 62 (by omega)
          by_cases h0 : 0 ≤ n
          · have HF := Lib.hid (fits_nonneg n P hP1 h0)
            have HP := Lib.hid hP
            have hd : decide (0 ≤ n) = true := by simpa using h0
            go_enter Try.func14, Try.ntmps14
            go_wp2
            go_ret
            exact ⟨by rw [H.out, HP.out, HF.out, hd]; rfl, rfl⟩
          · have hd : decide (0 ≤ n) = false := by simpa using h0
            go_enter Try.func14, Try.ntmps14
            go_wp2
            go_ret
            exact ⟨by rw [H.out, hd]; rfl, rfl⟩
      · have H := Lib.hid (fitsB_sig n b (by omega) (by omega))
        have HF := Lib.hid (fits_half n (2 ^ (b.toNat - 1)) (pow_pos' _))
        by_cases h3 : b = 64
        · subst h3
          have h4 : (decide (-(2 : Int) ^ 63 ≤ n) && decide (n < 2 ^ 63)) = true := by simp; omega
          have H4 := Lib.hid h4
          clear h4
          go_enter Try.func14, Try.ntmps14
          go_wp2
          go_ret
          exact ⟨by rw [H.out, HF.out]; exact congrArg (fun z => Ending.returned (.bool z)) H4.out.symm, rfl⟩
        · obtain ⟨P, hP⟩ : ∃ P : Int, (2 : Int) ^ (b.toNat - 1) = P := ⟨_, rfl⟩
          have hP1 : 1 ≤ P := by rw [← hP]; exact pow_pos' _
          have hP2 : P ≤ 4611686018427387904 := by rw [← hP]; exact pow_le' _ 62 (by omega)
          have HP := Lib.hid hP
          have hb64 : (b == 64) = false := by simpa using h3
          by_cases h5 : b = 63
          · have hb63 : (b == 63) = true := by simpa using h5
            clear h5
            by_cases h6 : -P ≤ n
            · have h7 : (decide (-P ≤ n) && decide (n < P)) = decide (n ≤ P - 1) := by
                simp only [h6, decide_true, Bool.true_and]; congr 1; simp only [eq_iff_iff]; omega
              have H7 := Lib.hid h7
              clear h7
              go_enter Try.func14, Try.ntmps14
              go_wp2
              go_ret
              exact ⟨by rw [H.out, HF.out, HP.out, H7.out]; rfl, rfl⟩
            · have h7 : decide (-P ≤ n) = false := by simpa using h6
              go_enter Try.func14, Try.ntmps14
              go_wp2
              go_ret
              exact ⟨by rw [H.out, HF.out, HP.out, h7]; rfl, rfl⟩
          · have hb63 : (b == 63) = false := by simpa using h5
            by_cases h6 : -P ≤ n
            · have h7 : decide (-P ≤ n) = true := by simpa using h6
              go_enter Try.func14, Try.ntmps14
              go_wp2
              go_ret
              exact ⟨by rw [H.out, HF.out, HP.out, h7]; rfl, rfl⟩
            · have h7 : decide (-P ≤ n) = false := by simpa using h6
              go_enter Try.func14, Try.ntmps14
              go_wp2
              go_ret
              exact ⟨by rw [H.out, HF.out, HP.out, h7]; rfl, rfl⟩

theorem rdown_any (n b : Int) (w : World) :
    Calls Try.prog 18 #[.int .i64 n, .int .i64 b] w fun e w' => e = .returned (.int .i64 (downI n b)) ∧ w = w' := by
  by_cases h : inDown n b
  · have H1 := Lib.hid (rdown_low n b h)
    have H2 := Lib.hid (rdown_at n b h)
    obtain ⟨h1, h2, h3, h4⟩ := h
    have t1 := tdiv_mul n b
    have t2 := tdiv_pred n b
    have t3 := tdiv_bd n b h1 h3 h4
    have t4 := tmod_bd n b h1
    by_cases hm : n.tmod b < 0
    · have H3 := Lib.hid (H1.out hm)
      clear H1 H2
      go_enter Try.func18, Try.ntmps18
      go_wp2
      go_ret
      exact ⟨by rw [H3.out]; rfl, rfl⟩
    · have H3 := Lib.hid (H2.out (by omega))
      clear H1 H2
      go_enter Try.func18, Try.ntmps18
      go_wp2
      go_ret
      exact ⟨by rw [H3.out]; rfl, rfl⟩
  · have H := Lib.hid (down_out n b h)
    by_cases h1 : b < 1
    · go_enter Try.func18, Try.ntmps18
      go_wp2
      go_ret
      exact ⟨by rw [H.out]; rfl, rfl⟩
    · by_cases h2 : 1099511627776 < b
      · go_enter Try.func18, Try.ntmps18
        go_wp2
        go_ret
        exact ⟨by rw [H.out]; rfl, rfl⟩
      · by_cases h3 : n < -1152921504606846976
        · go_enter Try.func18, Try.ntmps18
          go_wp2
          go_ret
          exact ⟨by rw [H.out]; rfl, rfl⟩
        · have h4 : 1152921504606846976 < n := by unfold inDown at h; omega
          go_enter Try.func18, Try.ntmps18
          go_wp2
          go_ret
          exact ⟨by rw [H.out]; rfl, rfl⟩

theorem rup_any (n b : Int) (w : World) :
    Calls Try.prog 16 #[.int .i64 n, .int .i64 b] w fun e w' => e = .returned (.int .i64 (upI n b)) ∧ w = w' := by
  by_cases h : inDown n b
  · have H1 := Lib.hid (rup_high n b h)
    have H2 := Lib.hid (rup_at n b h)
    obtain ⟨h1, h2, h3, h4⟩ := h
    have t1 := tdiv_mul n b
    have t2 := tdiv_succ n b
    have t3 := tdiv_bd n b h1 h3 h4
    have t4 := tmod_bd n b h1
    by_cases hm : 0 < n.tmod b
    · have H3 := Lib.hid (H1.out hm)
      clear H1 H2
      go_enter Try.func16, Try.ntmps16
      go_wp2
      go_ret
      exact ⟨by rw [H3.out]; rfl, rfl⟩
    · have H3 := Lib.hid (H2.out (by omega))
      clear H1 H2
      go_enter Try.func16, Try.ntmps16
      go_wp2
      go_ret
      exact ⟨by rw [H3.out]; rfl, rfl⟩
  · have H := Lib.hid (up_out n b h)
    by_cases h1 : b < 1
    · go_enter Try.func16, Try.ntmps16
      go_wp2
      go_ret
      exact ⟨by rw [H.out]; rfl, rfl⟩
    · by_cases h2 : 1099511627776 < b
      · go_enter Try.func16, Try.ntmps16
        go_wp2
        go_ret
        exact ⟨by rw [H.out]; rfl, rfl⟩
      · by_cases h3 : n < -1152921504606846976
        · go_enter Try.func16, Try.ntmps16
          go_wp2
          go_ret
          exact ⟨by rw [H.out]; rfl, rfl⟩
        · have h4 : 1152921504606846976 < n := by unfold inDown at h; omega
          go_enter Try.func16, Try.ntmps16
          go_wp2
          go_ret
          exact ⟨by rw [H.out]; rfl, rfl⟩

theorem pw_step (p : Int) (h : powerB p = true) : powerB (2 * p) = true ∨ 2 * p = 512 := by
  unfold powerB at *
  simp only [Bool.or_eq_true, beq_iff_eq] at *
  omega
theorem pw_next (p n : Int) (hp : powerB p = true) (hn : powerB n = true) (h : p ≤ n) (hne : p ≠ n) : 2 * p ≤ n := by
  unfold powerB at *
  simp only [Bool.or_eq_true, beq_iff_eq] at *
  omega
theorem pw_le (n : Int) (hn : powerB n = true) : n ≤ 256 := by
  unfold powerB at *
  simp only [Bool.or_eq_true, beq_iff_eq] at *
  omega
theorem pw_one (n : Int) (hn : powerB n = true) : 1 ≤ n := by
  unfold powerB at *
  simp only [Bool.or_eq_true, beq_iff_eq] at *
  omega

theorem rpower_any (n : Int) (w : World) :
    Calls Try.prog 20 #[.int .i64 n] w fun e w' => e = .returned (.bool (powerB n)) ∧ w = w' := by
  go_enter Try.func20, Try.ntmps20
  go_wp2
  go_loop [3] (fun j => ∃ q : Int, 1 ≤ q ∧ q ≤ 512 ∧ j = .int .i64 q ∧ (powerB q = true ∨ q = 512) ∧ (powerB n = true → q ≤ n)) (fun j => 512 - (intOf j).toNat)
  case atStart => exact ⟨1, by omega, by omega, rfl, .inl rfl, pw_one n⟩
  case round =>
    obtain ⟨q, h1, h2, rfl, h3, h4⟩ := hrel
    have H3 := Lib.hid h3
    have H4 := Lib.hid h4
    clear h3 h4
    by_cases hle : q ≤ 256
    · have hq : powerB q = true := by rcases H3.out with h | h; exact h; omega
      have Hq := Lib.hid hq
      clear hq
      by_cases he : q = n
      · subst he
        go_wp2
        go_ret
        exact ⟨by rw [Hq.out]; rfl, rfl⟩
      · have hb : (q == n) = false := by simpa using he
        go_wp2
        go_round
        case rel => exact ⟨2 * q, by omega, by omega, rfl, pw_step q Hq.out, fun hn => pw_next q n Hq.out hn (H4.out hn) he⟩
        case measure => simp [intOf]; omega
    · have hn : powerB n = false := by
        cases h : powerB n
        · rfl
        · have := H4.out h; have := pw_le n h; omega
      have Hn := Lib.hid hn
      clear hn
      go_wp2
      go_ret
      exact ⟨by rw [Hn.out]; rfl, rfl⟩
end Go.Proofs.Ytfhdgnacgnkamaa
