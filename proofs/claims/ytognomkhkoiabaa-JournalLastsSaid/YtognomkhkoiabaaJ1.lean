/-
  Package journal: the bytes of a number, of a row and of a header.
-/
import Derived.Test.YtognomkhkoiabaaBase
import Derived.Test.YtognomkhkoiabaaPut
import Derived.Test.YtognomkhkoiabaaPureB
namespace Go.Proofs.Ytognomkhkoiabaa
set_option linter.unusedVariables false
set_option linter.unusedSimpArgs false
open Go.RowKit

/-- The bytes of a number. -/
def num (n : Int) : ByteArray := bs (W1.bytesOf n 8)
theorem num_size (n : Int) : (num n).size = 8 := by unfold num; rw [bs_size, W1.bytesOf_length]
def zero8 : ByteArray := ⟨#[0, 0, 0, 0, 0, 0, 0, 0]⟩
theorem zero8_field : W1.isField zero8 0 8 := ⟨.inr (.inr (.inr rfl)), by decide, by decide⟩
theorem put_zero (n : Int) : W1.putS zero8 0 8 n = num n := by
  apply W1.ba_ext
  rw [W1.putS_list]
  simp [num, bs, zero8]

theorem numberP (n : Int) (w : World) (h1 : -9223372036854775808 ≤ n) (h2 : n ≤ 9223372036854775807) :
    Calls Try.prog 50 #[.int .i64 n] w fun e w' => e = .returned (.string (num n)) ∧ Below w.heap.size w w' := by
  have HC := Lib.hid (W1.put_yes zero8 0 8 n w (by decide) zero8_field (W1.fits_both8 n h1 h2))
  rw [put_zero] at HC
  unfold zero8 at HC
  clear h1 h2
  go_enter Try.func50, Try.ntmps50
  go_wp2_with fail
  refine HC.out.mono ?_; rintro e w2 ⟨rfl, hb⟩
  have HB := Lib.hid hb
  clear hb
  go_wp2_with fail
  go_ret
  exact ⟨rfl, HB.out⟩

/-- The form of a row. -/
def frm (s : ByteArray) : ByteArray := num s.size ++ s
theorem frm_size (s : ByteArray) : (frm s).size = 8 + s.size := by unfold frm; rw [ByteArray.size_append, num_size]

theorem formP (s : ByteArray) (w : World) (hs : s.size ≤ 1000000000000) :
    Calls Try.prog 42 #[.string s] w fun e w' => e = .returned (.string (frm s)) ∧ Below w.heap.size w w' := by
  have hadd := fun w => run_string_add_sum (P := Try.prog) (w := w) (num s.size) s (by rw [num_size]; omega)
  have HC := Lib.hid (numberP s.size w (by omega) (by omega))
  obtain ⟨ns, hns⟩ : ∃ x, num s.size = x := ⟨_, rfl⟩
  rw [hns] at hadd HC
  have HN := Lib.hid hns
  clear hns
  go_enter Try.func42, Try.ntmps42
  go_wp2_with fail
  refine HC.out.mono ?_; rintro e w2 ⟨rfl, hb⟩
  have HB := Lib.hid hb
  clear hb
  go_wp2_with fail
  go_ret
  exact ⟨by unfold frm; rw [HN.out]; rfl, HB.out⟩

/-- The header for rows. -/
def hdr (e c : Int) : ByteArray := num e ++ num c
theorem hdr_size (e c : Int) : (hdr e c).size = 16 := by unfold hdr; rw [ByteArray.size_append, num_size, num_size]

theorem headerP (a c : Int) (w : World) (h1 : -9223372036854775808 ≤ a) (h2 : a ≤ 9223372036854775807) (h3 : -9223372036854775808 ≤ c) (h4 : c ≤ 9223372036854775807) :
    Calls Try.prog 29 #[.int .i64 a, .int .i64 c] w fun e w' => e = .returned (.string (hdr a c)) ∧ Below w.heap.size w w' := by
  have hadd := fun w => run_string_add_sum (P := Try.prog) (w := w) (num a) (num c) (by rw [num_size, num_size]; decide)
  have HC := Lib.hid (numberP a w h1 h2)
  have HD := Lib.hid (fun w => numberP c w h3 h4)
  obtain ⟨na, hna⟩ : ∃ x, num a = x := ⟨_, rfl⟩
  obtain ⟨nc, hnc⟩ : ∃ x, num c = x := ⟨_, rfl⟩
  rw [hna, hnc] at hadd
  rw [hna] at HC
  rw [hnc] at HD
  have HN1 := Lib.hid hna
  have HN2 := Lib.hid hnc
  clear hna hnc h1 h2 h3 h4
  go_enter Try.func29, Try.ntmps29
  go_wp2_with fail
  refine HC.out.mono ?_; rintro e w2 ⟨rfl, hb⟩
  have HB := Lib.hid hb
  clear hb
  go_wp2_with fail
  refine (HD.out _).mono ?_; rintro e w3 ⟨rfl, hb⟩
  have HB2 := Lib.hid (HB.out.trans (hb.mono HB.out.size))
  clear hb
  go_wp2_with fail
  go_ret
  exact ⟨by unfold hdr; rw [HN1.out, HN2.out]; rfl, HB2.out⟩

/-- The offset behind the forms of rows. -/
def ext (l : List ByteArray) : Nat := 16 + (l.map fun s => 8 + s.size).sum
theorem ext_snoc (l : List ByteArray) (k : Nat) (h : k < l.length) : ext (l.take (k + 1)) = ext (l.take k) + (8 + l[k].size) := by
  unfold ext
  rw [List.take_succ_eq_append_getElem h, List.map_append, List.sum_append]
  simp
  omega
theorem ext_le (l : List ByteArray) (k : Nat) : ext (l.take k) ≤ ext l := by
  unfold ext
  have h : l.take k ++ l.drop k = l := List.take_append_drop k l
  have := congrArg (fun l : List ByteArray => (l.map fun s => 8 + s.size).sum) h
  simp only [List.map_append, List.sum_append] at this
  omega
theorem ext_len : ∀ (l : List ByteArray), l.length ≤ ext l
  | [] => Nat.zero_le _
  | a :: l => by
    have := ext_len l
    unfold ext at *
    simp only [List.length_cons, List.map_cons, List.sum_cons]
    omega
def sv (l : List ByteArray) : List Value := l.map Value.string
theorem sv_length (l : List ByteArray) : (sv l).length = l.length := by simp [sv]
theorem sv_get (l : List ByteArray) (k : Nat) (h : k < l.length) : (sv l)[k]? = some (.string l[k]) := by simp [sv, h]

def ExRel (l : List ByteArray) (w : World) (x i : Value) : Prop := ∃ k : Nat, i = .int .i64 k ∧ k ≤ l.length ∧ x = .int .i64 (ext (l.take k))
theorem extentP (v : Value) (l : List ByteArray) (w : World) (B : Nat) (hr : Row w B v (sv l)) (hl : ext l ≤ 1000000000000) :
    Calls Try.prog 46 #[v] w fun e w' => e = .returned (.int .i64 (ext l)) ∧ w = w' := by
  obtain ⟨A, cap, rfl, hA⟩ := hr
  rw [sv_length] at hA ⊢
  have HA := Lib.hid hA
  have HL := Lib.hid hl
  clear hA hl
  go_enter Try.func46, Try.ntmps46
  go_wp2_with fail
  go_loop [3, 5, 8] (fun x _ i => ExRel l w x i) (fun _ _ i => l.length - (intOf i).toNat)
  case atStart => exact ⟨0, rfl, Nat.zero_le _, rfl⟩
  case round =>
    obtain ⟨k, rfl, hk, rfl⟩ := hrel
    by_cases hlt : k < l.length
    · have q1 : (k : Int) < l.length := by omega
      have q2 : l.length ≤ 1000000000000 := Nat.le_trans (ext_len l) HL.out
      obtain ⟨b, off, rfl, hb, hc⟩ := HA.out (by omega)
      have c0 := hc k hlt
      rw [sv_get l k hlt] at c0
      have e1 := ext_snoc l k hlt
      have e2 := ext_le l (k + 1)
      have e3 := HL.out
      clear hc
      obtain ⟨s, hs⟩ : ∃ s, l[k] = s := ⟨_, rfl⟩
      rw [hs] at c0 e1
      have HE := Lib.hid e1
      have hsz : ext (l.take k) + (8 + s.size) ≤ 1000000000000 := by omega
      clear hs e1 e2 e3
      go_wp2_with fail
      go_round
      case rel => exact ⟨k + 1, by go_num, by omega, by rw [HE.out]; go_num⟩
      case measure => simp [intOf]; omega
    · obtain rfl : k = l.length := by omega
      go_wp2_with fail
      go_ret
      exact ⟨rfl, rfl⟩
end Go.Proofs.Ytognomkhkoiabaa
