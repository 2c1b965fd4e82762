/-
  Package isa: digits, operands, and the name in front of a line.
-/
import Derived.Test.YtmnhnighlgpjmaaDoorI3
import Derived.Test.YtmnhnighlgpjmaaDoorShelf
import Derived.Lib.ItoaNum
namespace Go.Proofs.YtmnhnighlgpjmaaDoor
set_option linter.unusedVariables false
set_option linter.unusedSimpArgs false
open Go.RowKit

/-- The number that decimal digits spell, behind a number. -/
def digV (n : Nat) (l : List UInt8) : Nat := l.foldl (fun n b => 10 * n + (b.toNat - 48)) n
def isDig (b : UInt8) : Bool := decide (48 ≤ b.toNat) && decide (b.toNat ≤ 57)
/-- 1 to most decimal digits. -/
def digsB (l : List UInt8) (most : Nat) : Bool := decide (1 ≤ l.length ∧ l.length ≤ most) && l.all isDig
/-- What parseDigits answers. -/
def pDig (l : List UInt8) (most : Nat) : Int × Bool := if digsB l most then (digV 0 l, true) else (0, false)
theorem digV_append (n : Nat) (l r : List UInt8) : digV n (l ++ r) = digV (digV n l) r := by
  unfold digV; rw [List.foldl_append]
theorem digV_cons (n : Nat) (b : UInt8) (r : List UInt8) : digV n (b :: r) = digV (10 * n + (b.toNat - 48)) r := by unfold digV; rw [List.foldl_cons]
theorem digV_lt : ∀ (l : List UInt8) (n : Nat), l.all isDig = true → digV n l < (n + 1) * 10 ^ l.length
  | [], n, _ => by
    rw [List.length_nil, Nat.pow_zero, Nat.mul_one]
    exact Nat.lt_succ_self n
  | b :: t, n, h => by
    rw [List.all_cons, Bool.and_eq_true] at h
    have hb := h.1
    unfold isDig at hb
    rw [Bool.and_eq_true, decide_eq_true_eq, decide_eq_true_eq] at hb
    obtain ⟨q, hq⟩ : ∃ q, b.toNat - 48 = q := ⟨_, rfl⟩
    have hq9 : q ≤ 9 := by omega
    rw [digV_cons, hq, List.length_cons, Nat.pow_succ]
    have h1 := digV_lt t (10 * n + q) h.2
    refine Nat.lt_of_lt_of_le h1 ?_
    have h2 : (10 * n + q + 1) ≤ (n + 1) * 10 := by omega
    have h3 := Nat.mul_le_mul_right (10 ^ t.length) h2
    rw [Nat.mul_assoc, Nat.mul_comm 10 (10 ^ t.length)] at h3
    exact h3

theorem pDig_no {l : List UInt8} {most : Nat} (h : digsB l most = false) : pDig l most = (0, false) := by unfold pDig; rw [h]; rfl
theorem pDig_yes {l : List UInt8} {most : Nat} (h : digsB l most = true) : pDig l most = (((digV 0 l : Nat) : Int), true) := by unfold pDig; rw [h]; rfl

theorem digsB_bad {l : List UInt8} {most k : Nat} {b : UInt8} (h : l[k]? = some b) (hb : isDig b = false) : digsB l most = false := by
  unfold digsB
  have : l.all isDig = false := by
    rw [List.all_eq_false]
    exact ⟨b, List.mem_of_getElem? h, by simp [hb]⟩
  rw [this, Bool.and_false]
theorem digsB_good {l : List UInt8} {most : Nat} (h : l.all isDig = true) (h1 : 1 ≤ l.length) (h2 : l.length ≤ most) : digsB l most = true := by
  unfold digsB
  rw [h, decide_eq_true ⟨h1, h2⟩]; rfl

theorem digsOutP (s : ByteArray) (most : Nat) (w : World) (hm : most ≤ 10) (h : s.size < 1 ∨ most < s.size) :
    Calls Tryd.prog 67 #[.string s, .int .i64 most] w fun e w' => e = .returned (.tuple #[.int .i64 0, .bool false]) ∧ w = w' := by
  rcases h with h | h
  · have hz : s.size = 0 := by omega
    go_enter Tryd.func67, Tryd.ntmps67
    go_wp2_with fail
    go_ret2
    exact ⟨rfl, rfl⟩
  · have h1 : decide ((s.size : Int) < 1) = false := decide_eq_false (by omega)
    have h1' : decide (s.size < 1) = false := decide_eq_false (by omega)
    have h2 : (most : Int) < s.size := by omega
    go_enter Tryd.func67, Tryd.ntmps67
    go_wp2_with fail
    go_ret2
    exact ⟨rfl, rfl⟩

theorem take_snoc (s : ByteArray) (k : Nat) (h : k < s.size) : s.data.toList.take (k + 1) = s.data.toList.take k ++ [s[k]] := by
  rw [List.take_succ_eq_append_getElem (by simpa using h)]; rfl

set_option maxHeartbeats 1000000 in
theorem digsInP (s : ByteArray) (most : Nat) (w : World) (hm : most ≤ 10) (h1 : 1 ≤ s.size) (h2 : s.size ≤ most) :
    Calls Tryd.prog 67 #[.string s, .int .i64 most] w fun e w' => e = .returned (.tuple #[.int .i64 (pDig s.data.toList most).1, .bool (pDig s.data.toList most).2]) ∧ w = w' := by
  obtain ⟨v, hv⟩ : ∃ v, pDig s.data.toList most = v := ⟨_, rfl⟩
  rw [hv]
  have HV := Lib.hid hv; clear hv
  have h1' : decide ((s.size : Int) < 1) = false := decide_eq_false (by omega)
  have h1'' : decide (s.size < 1) = false := decide_eq_false (by omega)
  have h2' : decide ((most : Int) < s.size) = false := decide_eq_false (by omega)
  have h2'' : decide (most < s.size) = false := decide_eq_false (by omega)
  go_enter Tryd.func67, Tryd.ntmps67
  go_wp2_with fail
  go_loop [6, 19] (fun n i => ∃ k : Nat, k ≤ s.size ∧ i = .int .i64 k ∧ (s.data.toList.take k).all isDig = true ∧ n = .int .i64 (digV 0 (s.data.toList.take k))) (fun _ i => s.size - (intOf i).toNat)
  case atStart => exact ⟨0, by omega, rfl, rfl, rfl⟩
  case round =>
    obtain ⟨k, hk, rfl, hall, rfl⟩ := hrel
    by_cases hlt : k < s.size
    · have hd := digV_lt _ 0 hall
      have hlen : (s.data.toList.take k).length ≤ 9 := by rw [List.length_take]; omega
      have hp : 10 ^ (s.data.toList.take k).length ≤ 10 ^ 9 := Nat.pow_le_pow_right (by omega) hlen
      obtain ⟨n, hn⟩ : ∃ n, digV 0 (s.data.toList.take k) = n := ⟨_, rfl⟩
      rw [hn] at hd
      have hn9 : n < 1000000000 := by omega
      rw [hn]
      have HT := Lib.hid (take_snoc s k hlt)
      have HN := Lib.hid hn
      have HA := Lib.hid hall
      have hb := s[k].toNat_lt
      obtain ⟨b, hbe⟩ : ∃ b, s[k].toNat = b := ⟨_, rfl⟩
      have hlist : s.data.toList[k]? = some s[k] := by simp [hlt]; rfl
      have HL := Lib.hid hlist
      have HBE := Lib.hid hbe
      clear hn hall hd hlen hp hlist
      by_cases hlo : b < 48
      · have hq : s[k].toNat < 48 := by omega
        clear hbe
        go_wp2_with fail
        go_ret2
        exact ⟨by rw [← HV.out, pDig_no (digsB_bad HL.out (by simp [isDig]; omega))]; rfl, rfl⟩
      · have hd1 : decide ((s[k].toNat : Int) < 48) = false := decide_eq_false (by omega)
        have hd1' : decide (s[k].toNat < 48) = false := decide_eq_false (by omega)
        by_cases hhi : 57 < b
        · have hq : 57 < s[k].toNat := by omega
          clear hbe
          go_wp2_with fail
          go_ret2
          exact ⟨by rw [← HV.out, pDig_no (digsB_bad HL.out (by simp [isDig]; omega))]; rfl, rfl⟩
        · have hd2 : decide ((57 : Int) < (s[k].toNat : Int)) = false := decide_eq_false (by omega)
          have hd2' : decide (57 < s[k].toNat) = false := decide_eq_false (by omega)
          have hb1 : 48 ≤ s[k].toNat := by omega
          have hb2 : s[k].toNat ≤ 57 := by omega
          clear hbe
          go_wp2_with fail
          go_round
          case rel => exact ⟨k + 1, by omega, by go_num, by rw [HT.out, List.all_append, HA.out]; simp [isDig, hb1, hb2], by rw [HT.out, digV_append, HN.out]; show _ = Value.int .i64 ((10 * n + (s[k].toNat - 48) : Nat) : Int); go_num⟩
          case measure => simp [intOf]; omega
    · obtain rfl : k = s.size := by omega
      have hfull : s.data.toList.take s.size = s.data.toList := List.take_of_length_le (by simp)
      rw [hfull] at hall
      have HE := Lib.hid hfull
      have HA := Lib.hid hall
      clear hfull hall
      go_wp2_with fail
      go_ret2
      exact ⟨by rw [← HV.out, pDig_yes (digsB_good HA.out (by simp; omega) (by simp; omega))]; simp only [HE.out]; rfl, rfl⟩

/-- parseDigits. -/
theorem digsP (s : ByteArray) (most : Nat) (w : World) (hm : most ≤ 10) :
    Calls Tryd.prog 67 #[.string s, .int .i64 most] w fun e w' => e = .returned (.tuple #[.int .i64 (pDig s.data.toList most).1, .bool (pDig s.data.toList most).2]) ∧ w = w' := by
  by_cases h : s.size < 1 ∨ most < s.size
  · rw [pDig_no (by unfold digsB; rw [decide_eq_false (by simp; omega)]; rfl)]
    exact digsOutP s most w hm h
  · exact digsInP s most w hm (by omega) (by omega)
end Go.Proofs.YtmnhnighlgpjmaaDoor
