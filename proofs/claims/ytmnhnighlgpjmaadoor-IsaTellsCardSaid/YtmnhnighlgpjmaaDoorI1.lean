/-
  Package isa: the tables in memory, the fields of an instruction, and when a number may stand in one.
-/
import Derived.Test.YtmnhnighlgpjmaaDoorI0
import Derived.Test.YtmnhnighlgpjmaaDoorWord
import Derived.Below
import Derived.IntWalk
import Derived.BigQuiet
import Derived.Deep.QuietTactic
namespace Go.Proofs.YtmnhnighlgpjmaaDoor
set_option linter.unusedVariables false
set_option linter.unusedSimpArgs false
open Go.RowKit

/-- The table of forms in memory. -/
def FormsAt (w : World) : Prop := 0 < w.heap.size ∧ ∀ o : Nat, o < 31 →
  w.cell? ⟨0, o * 4, none⟩ = some (.string ⟨(nameN o).toArray⟩) ∧ w.cell? ⟨0, o * 4 + 1, none⟩ = some (.int .u8 (opsN o)) ∧
  w.cell? ⟨0, o * 4 + 2, none⟩ = some (.int .u8 (rdN o)) ∧ w.cell? ⟨0, o * 4 + 3, none⟩ = some (.int .u8 (wrN o))

theorem fieldsOfP (a b c m o : Int) (w : World) :
    Calls Tryd.prog 28 #[.agg #[.int .i64 o, .int .i64 a, .int .i64 b, .int .i64 c, .int .i64 m]] w fun e w' => e = .returned (.agg #[.int .i64 a, .int .i64 b, .int .i64 c, .int .i64 m]) ∧ Below w.heap.size w w' := by
  go_enter Tryd.func28, Tryd.ntmps28
  go_wp2_with fail
  refine bodyPost_ret (v := .agg #[.int .i64 a, .int .i64 b, .int .i64 c, .int .i64 m]) (by simp [results, Tryd.results28, go_sem]) rfl ⟨rfl, ?_⟩
  exact (((Below.refl _ _).alloc (Nat.le_refl _) _).alloc (by simp) _)

theorem has_bits : ∀ m : Nat, m < 32 → ∀ f : Nat, f < 5 → (bits .and .u8 ((m : Int) / 2 ^ f) 1 == 1) = hasB m f := by decide +kernel
theorem hasP (m f : Nat) (w : World) (hm : m < 32) (hf : f < 5) :
    Calls Tryd.prog 30 #[.int .u8 m, .int .i64 f] w fun e w' => e = .returned (.bool (hasB m f)) ∧ w = w' := by
  go_enter Tryd.func30, Tryd.ntmps30
  go_wp2_with fail
  go_ret
  exact ⟨congrArg (fun b => Ending.returned (.bool b)) (has_bits m hm f hf), rfl⟩

theorem fits32 (n : Int) : W1.fitsB n 32 true = decide (-2147483648 ≤ n ∧ n ≤ 2147483647) := by
  rw [Bool.eq_iff_iff]; simp [W1.fitsB]; omega
theorem rightFieldP (f : Nat) (n : Int) (is : Bool) (w : World) (hf : f < 4) :
    Calls Tryd.prog 29 #[.int .i64 f, .int .i64 n, .bool is] w fun e w' => e = .returned (.bool (fieldB f n is)) ∧ w = w' := by
  obtain ⟨v, hv⟩ : ∃ v, fieldB f n is = v := ⟨_, rfl⟩
  rw [hv]
  have HV := Lib.hid hv; clear hv
  cases is
  · by_cases h0 : n = 0
    · subst h0
      go_enter Tryd.func29, Tryd.ntmps29
      go_wp2_with fail
      go_ret
      exact ⟨by rw [← HV.out]; rfl, rfl⟩
    · have hn : (n == 0) = false := by simpa using h0
      go_enter Tryd.func29, Tryd.ntmps29
      go_wp2_with fail
      go_ret
      exact ⟨by rw [← HV.out]; simp [fieldB, hn], rfl⟩
  · by_cases h3 : f = 3
    · subst h3
      have HF := Lib.hid (W1.fits_any n 32 true w)
      go_enter Tryd.func29, Tryd.ntmps29
      go_wp2_with fail
      refine HF.out.mono ?_; rintro e w' ⟨rfl, rfl⟩
      go_wp2_with fail
      go_ret
      exact ⟨by rw [← HV.out, fits32]; rfl, rfl⟩
    · have h3' : ((f : Int) == 3) = false := by simp; omega
      have h3'' : (f : Int) ≠ 3 := by omega
      by_cases h0 : 0 ≤ n
      · by_cases h1 : n < 16
        · go_enter Tryd.func29, Tryd.ntmps29
          go_wp2_with fail
          go_ret
          exact ⟨by rw [← HV.out]; simp [fieldB, h3, h0, h1], rfl⟩
        · have h1' : decide (n < 16) = false := by simpa using h1
          go_enter Tryd.func29, Tryd.ntmps29
          go_wp2_with fail
          go_ret
          exact ⟨by rw [← HV.out]; simp [fieldB, h3, h0, h1]; try omega, rfl⟩
      · have h0' : decide (0 ≤ n) = false := by simpa using h0
        go_enter Tryd.func29, Tryd.ntmps29
        go_wp2_with fail
        go_ret
        exact ⟨by rw [← HV.out]; simp [fieldB, h3]; omega, rfl⟩

theorem tmod8 (m : Int) : m.tmod 8 = 0 ↔ m % 8 = 0 := Int.dvd_iff_tmod_eq_zero.symm.trans Int.dvd_iff_emod_eq_zero
theorem rightImmP (o : Nat) (m : Int) (w : World) :
    Calls Tryd.prog 31 #[.int .i64 o, .int .i64 m] w fun e w' => e = .returned (.bool (immB o m)) ∧ w = w' := by
  obtain ⟨v, hv⟩ : ∃ v, immB o m = v := ⟨_, rfl⟩
  rw [hv]
  have HV := Lib.hid hv; clear hv
  by_cases h30 : o = 30
  · subst h30
    have HE : Hid (immB (30 : Nat) m = decide (0 ≤ m ∧ m < 8)) := rfl
    by_cases h0 : 0 ≤ m
    · by_cases h1 : m < 8
      · go_enter Tryd.func31, Tryd.ntmps31
        go_wp2_with fail
        go_ret
        exact ⟨by rw [← HV.out, HE.out]; simp [h0, h1], rfl⟩
      · have h1' : decide (m < 8) = false := by simpa using h1
        go_enter Tryd.func31, Tryd.ntmps31
        go_wp2_with fail
        go_ret
        exact ⟨by rw [← HV.out, HE.out]; simp; omega, rfl⟩
    · have h0' : decide (0 ≤ m) = false := by simpa using h0
      go_enter Tryd.func31, Tryd.ntmps31
      go_wp2_with fail
      go_ret
      exact ⟨by rw [← HV.out, HE.out]; simp; omega, rfl⟩
  have e30 : ((o : Int) == 30) = false := by simp; omega
  by_cases h22 : o = 22
  · subst h22
    have HE : Hid (immB (22 : Nat) m = decide (m % 8 = 0 ∧ -512 ≤ m ∧ m ≤ 504)) := rfl
    by_cases h8 : m % 8 = 0
    · have t8 : (m.tmod 8 == 0) = true := by simpa using (tmod8 m).2 h8
      have H8 := Lib.hid h8; clear h8
      by_cases h0 : -512 ≤ m
      · by_cases h1 : m ≤ 504
        · have HB := Lib.hid (And.intro h0 h1)
          go_enter Tryd.func31, Tryd.ntmps31
          go_wp2_with fail
          go_ret
          exact ⟨by rw [← HV.out, HE.out]; simp [H8.out, HB.out], rfl⟩
        · have h1' : decide (m ≤ 504) = false := by simpa using h1
          go_enter Tryd.func31, Tryd.ntmps31
          go_wp2_with fail
          go_ret
          exact ⟨by rw [← HV.out, HE.out]; simp; omega, rfl⟩
      · have h0' : decide (-512 ≤ m) = false := by simpa using h0
        go_enter Tryd.func31, Tryd.ntmps31
        go_wp2_with fail
        go_ret
        exact ⟨by rw [← HV.out, HE.out]; simp; omega, rfl⟩
    · have t8 : (m.tmod 8 == 0) = false := by simpa using fun h => h8 ((tmod8 m).1 h)
      go_enter Tryd.func31, Tryd.ntmps31
      go_wp2_with fail
      go_ret
      exact ⟨by rw [← HV.out, HE.out]; simp [h8], rfl⟩
  have e22 : ((o : Int) == 22) = false := by simp; omega
  by_cases hj : o = 19 ∨ o = 20 ∨ o = 21 ∨ o = 24 ∨ o = 25
  · have HE : Hid (immB o m = decide (m % 8 = 0)) := Lib.hid (by unfold immB; rw [if_neg (by omega), if_neg (by omega), if_pos (by omega)])
    by_cases h8 : m % 8 = 0
    · have t8 : (m.tmod 8 == 0) = true := by simpa using (tmod8 m).2 h8
      have H8 := Lib.hid h8; clear h8
      rcases hj with rfl | rfl | rfl | rfl | rfl
      all_goals
        go_enter Tryd.func31, Tryd.ntmps31
        go_wp2_with fail
        go_ret
        exact ⟨by rw [← HV.out, HE.out, H8.out]; rfl, rfl⟩
    · have t8 : (m.tmod 8 == 0) = false := by simpa using fun h => h8 ((tmod8 m).1 h)
      rcases hj with rfl | rfl | rfl | rfl | rfl
      all_goals
        go_enter Tryd.func31, Tryd.ntmps31
        go_wp2_with fail
        go_ret
        exact ⟨by rw [← HV.out, HE.out, decide_eq_false h8]; rfl, rfl⟩
  · have HE : Hid (immB o m = true) := Lib.hid (by unfold immB; rw [if_neg (by omega), if_neg (by omega), if_neg (by omega)])
    have e19 : ((o : Int) == 19) = false := by simp; omega
    have e20 : ((o : Int) == 20) = false := by simp; omega
    have e21 : ((o : Int) == 21) = false := by simp; omega
    have e24 : ((o : Int) == 24) = false := by simp; omega
    have e25 : ((o : Int) == 25) = false := by simp; omega
    go_enter Tryd.func31, Tryd.ntmps31
    go_wp2_with fail
    go_ret
    exact ⟨by rw [← HV.out, HE.out]; rfl, rfl⟩
end Go.Proofs.YtmnhnighlgpjmaaDoor
