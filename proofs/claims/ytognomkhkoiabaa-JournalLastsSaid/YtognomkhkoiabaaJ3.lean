/-
  Package journal: the rows of a file.
-/
import Derived.Test.YtognomkhkoiabaaJ2
namespace Go.Proofs.Ytognomkhkoiabaa
set_option linter.unusedVariables false
set_option linter.unusedSimpArgs false
open Go.RowKit

/-- The rows of a file. -/
def parseS (s : ByteArray) : Option (List ByteArray) :=
  if s.size < 16 then some [] else if val8 s 0 = 0 then some [] else if val8 s 0 < 16 ∨ (s.size : Int) < val8 s 0 then none else
  match splitS (s.extract 16 (val8 s 0).toNat) with
  | none => none
  | some l => if (l.length : Int) = val8 s 8 then some l else none

theorem splitN_len : ∀ (m : Nat) (s : ByteArray) (l : List ByteArray), splitN m s = some l → l.length ≤ s.size
  | 0, s, l, h => by simp [splitN] at h
  | m + 1, s, l, h => by
    unfold splitN at h
    by_cases h0 : s.size = 0
    · rw [if_pos h0] at h; injection h with h; subst h; exact Nat.zero_le _
    · rw [if_neg h0] at h
      by_cases h8 : s.size < 8
      · rw [if_pos h8] at h; cases h
      · rw [if_neg h8] at h
        by_cases hv : val8 s 0 < 0 ∨ (s.size : Int) - 8 < val8 s 0
        · rw [if_pos hv] at h; cases h
        · rw [if_neg hv] at h
          rcases hr : splitN m (s.extract (8 + (val8 s 0).toNat) s.size) with _ | r
          · rw [hr] at h; cases h
          · rw [hr] at h
            injection h with h
            subst h
            have := splitN_len m _ r hr
            rw [ByteArray.size_extract] at this
            rw [List.length_cons]
            omega

set_option maxRecDepth 100000 in
theorem parseP (s : ByteArray) (w : World) (hs : s.size ≤ 1000000000000) :
    Calls Try.prog 21 #[.string s] w (SplitPost w (parseS s)) := by
  by_cases h16 : s.size < 16
  · have HP : Hid (SplitPost w (parseS s) (.returned (.tuple #[.slice none 0 0, .bool true])) w) := Lib.hid (by
      unfold parseS; rw [if_pos h16]; exact ⟨_, rfl, World.ownsRow_nil _ _ _ _, Below.refl _ _⟩)
    have k1 : decide ((s.size : Int) < 16) = true := decide_eq_true (by omega)
    by_cases h8 : s.size < 8
    · have HC := Lib.hid (get8_no s 0 w (by omega) (by omega))
      go_enter Try.func21, Try.ntmps21
      go_wp2_with fail
      refine HC.out.mono ?_; rintro e w2 ⟨rfl, rfl⟩
      go_wp2_with fail
      go_ret2
      exact HP.out
    · have HC := Lib.hid (get8 s 0 w (by omega) (by omega))
      obtain ⟨a, ha⟩ : ∃ a, val8 s 0 = a := ⟨_, rfl⟩
      rw [ha] at HC
      clear ha
      go_enter Try.func21, Try.ntmps21
      go_wp2_with fail
      refine HC.out.mono ?_; rintro e w2 ⟨rfl, rfl⟩
      go_wp2_with fail
      go_ret2
      exact HP.out
  · have HC := Lib.hid (get8 s 0 w (by omega) (by omega))
    have hb := val8_bd s 0 (by omega)
    have k1 : decide ((s.size : Int) < 16) = false := decide_eq_false (by omega)
    have hpa : parseS s = if val8 s 0 = 0 then some [] else if val8 s 0 < 16 ∨ (s.size : Int) < val8 s 0 then none else
      match splitS (s.extract 16 (val8 s 0).toNat) with
      | none => none
      | some l => if (l.length : Int) = val8 s 8 then some l else none := by unfold parseS; rw [if_neg h16]
    obtain ⟨a, ha⟩ : ∃ a, val8 s 0 = a := ⟨_, rfl⟩
    rw [ha] at HC hb hpa
    clear ha
    by_cases ha0 : a = 0
    · have k2 : (a == 0) = true := by rw [beq_iff_eq]; exact ha0
      have HP : Hid (SplitPost w (parseS s) (.returned (.tuple #[.slice none 0 0, .bool true])) w) := Lib.hid (by
        rw [hpa, if_pos ha0]; exact ⟨_, rfl, World.ownsRow_nil _ _ _ _, Below.refl _ _⟩)
      clear hpa ha0
      go_enter Try.func21, Try.ntmps21
      go_wp2_with fail
      refine HC.out.mono ?_; rintro e w2 ⟨rfl, rfl⟩
      go_wp2_with fail
      go_ret2
      exact HP.out
    · rw [if_neg ha0] at hpa
      have k2 : (a == 0) = false := by rw [beq_eq_false_iff_ne]; exact ha0
      by_cases hv : a < 16 ∨ (s.size : Int) < a
      · have HP : Hid (SplitPost w (parseS s) (.returned (.tuple #[.slice none 0 0, .bool false])) w) := Lib.hid (by
          rw [hpa, if_pos hv]; exact ⟨rfl, Below.refl _ _⟩)
        clear hpa ha0
        rcases Int.lt_or_le a 16 with hv1 | hv1
        · have k3 : decide (a < 16) = true := decide_eq_true hv1
          clear hv
          go_enter Try.func21, Try.ntmps21
          go_wp2_with fail
          refine HC.out.mono ?_; rintro e w2 ⟨rfl, rfl⟩
          go_wp2_with fail
          go_ret2
          exact HP.out
        · have hv2 : (s.size : Int) < a := by omega
          have k3 : decide (a < 16) = false := decide_eq_false (by omega)
          have k4 : decide ((s.size : Int) < a) = true := decide_eq_true hv2
          have k5 : decide (a > (s.size : Int)) = true := decide_eq_true hv2
          clear hv
          go_enter Try.func21, Try.ntmps21
          go_wp2_with fail
          refine HC.out.mono ?_; rintro e w2 ⟨rfl, rfl⟩
          go_wp2_with fail
          go_ret2
          exact HP.out
      · rw [if_neg hv] at hpa
        obtain ⟨n, rfl⟩ : ∃ n : Nat, a = n := ⟨a.toNat, by omega⟩
        rw [Int.toNat_natCast] at hpa
        have hn1 : 16 ≤ n := by omega
        have hn2 : n ≤ s.size := by omega
        have k3 : decide ((n : Int) < 16) = false := decide_eq_false (by omega)
        have k4 : decide ((s.size : Int) < (n : Int)) = false := decide_eq_false (by omega)
        have k5 : decide ((n : Int) > (s.size : Int)) = false := decide_eq_false (by omega)
        have HD := Lib.hid (fun w => get8 s 8 w (by omega) (by omega))
        have hsz : (s.extract 16 n).size ≤ s.size := by rw [ByteArray.size_extract]; omega
        have HS := Lib.hid (fun w => splitP (s.extract 16 n) w (by omega))
        obtain ⟨c, hc⟩ : ∃ c, val8 s 8 = c := ⟨_, rfl⟩
        rw [hc] at HD hpa
        clear hc hv ha0 hb
        have hlen : ∀ l, splitS (s.extract 16 n) = some l → l.length ≤ 1000000000000 := fun l h => by have := splitN_len _ _ l h; omega
        obtain ⟨r, hr⟩ : ∃ r, splitS (s.extract 16 n) = r := ⟨_, rfl⟩
        rw [hr] at HS hpa hlen
        have HPA := Lib.hid hpa
        have HL := Lib.hid hlen
        clear hr hpa hlen
        go_enter Try.func21, Try.ntmps21
        go_wp2_with fail
        refine HC.out.mono ?_; rintro e w2 ⟨rfl, rfl⟩
        go_wp2_with fail
        refine (HD.out _).mono ?_; rintro e w3 ⟨rfl, rfl⟩
        go_wp2_with fail
        refine (HS.out _).mono ?_
        rintro e w4 hq
        rcases r with _ | l
        · obtain ⟨rfl, hb⟩ := hq
          have HB := Lib.hid hb
          clear hb
          go_wp2_with fail
          go_ret2
          rw [HPA.out]
          exact ⟨rfl, HB.out⟩
        · obtain ⟨v, rfl, hown, hb⟩ := hq
          have HB := Lib.hid hb
          have HO := Lib.hid hown
          have hll := HL.out l rfl
          obtain ⟨A, cap, rfl⟩ : ∃ A cap, v = .slice A l.length cap := by
            obtain ⟨A, cap, h, _⟩ := Row.of_own hown
            rw [sv_length] at h
            exact ⟨A, cap, h⟩
          clear hb hown
          by_cases hc : (l.length : Int) = c
          · have k6 : ((l.length : Int) == c) = true := by rw [beq_iff_eq]; exact hc
            have k7 : ((l.length : Int) != c) = false := by rw [bne, k6]; rfl
            have HCC := Lib.hid hc
            clear hc
            go_wp2_with fail
            go_ret2
            rw [HPA.out]
            show SplitPost _ (if _ then _ else _) _ _
            rw [if_pos HCC.out]
            exact ⟨_, rfl, HO.out, HB.out⟩
          · have k6 : ((l.length : Int) == c) = false := by rw [beq_eq_false_iff_ne]; exact hc
            have k7 : ((l.length : Int) != c) = true := by rw [bne, k6]; rfl
            have HCC := Lib.hid hc
            clear hc
            go_wp2_with fail
            go_ret2
            rw [HPA.out]
            show SplitPost _ (if _ then _ else _) _ _
            rw [if_neg HCC.out]
            exact ⟨rfl, HB.out⟩
end Go.Proofs.Ytognomkhkoiabaa
