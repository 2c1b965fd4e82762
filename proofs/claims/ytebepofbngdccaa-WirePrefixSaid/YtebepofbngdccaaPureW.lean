/-
  Plain mathematics of the wire's numbers: the bytes of a number, and what stands at the beginning of a list of bytes.
-/
import Derived.Test.YtebepofbngdccaaChecked
namespace Go.Proofs.Ytebepofbngdccaa
set_option linter.unusedVariables false
set_option linter.unusedSimpArgs false

def enc (m : Nat) : List UInt8 := if m < 128 then [UInt8.ofNat m] else UInt8.ofNat (m % 128 + 128) :: enc (m / 128)
termination_by m
decreasing_by omega

theorem enc_lo {m : Nat} (h : m < 128) : enc m = [UInt8.ofNat m] := by rw [enc, if_pos h]
theorem enc_hi {m : Nat} (h : 128 ≤ m) : enc m = UInt8.ofNat (m % 128 + 128) :: enc (m / 128) := by rw [enc, if_neg (by omega)]

theorem enc_pos (m : Nat) : 1 ≤ (enc m).length := by
  by_cases h : m < 128
  · rw [enc_lo h]; simp
  · rw [enc_hi (by omega)]; simp

theorem enc_le (k : Nat) : ∀ m : Nat, m < 128 ^ (k + 1) → (enc m).length ≤ k + 1 := by
  induction k with
  | zero => intro m h; rw [enc_lo (by simpa using h)]; simp
  | succ k ih =>
    intro m h
    by_cases h2 : m < 128
    · rw [enc_lo h2]; simp
    · rw [enc_hi (by omega)]
      have := ih (m / 128) (by rw [Nat.div_lt_iff_lt_mul (by omega), ← Nat.pow_succ]; exact h)
      simp; omega

theorem enc_le10 {m : Nat} (h : m < 18446744073709551616) : (enc m).length ≤ 10 := enc_le 9 m (by omega)

/-- dec: the number whose bytes stand at the beginning, however large. -/
def dec : List UInt8 → Option (Nat × List UInt8)
  | [] => none
  | b :: l => if b.toNat < 128 then some (b.toNat, l) else
    match dec l with
    | some (m, r) => if m = 0 then none else some (128 * m + (b.toNat - 128), r)
    | none => none

theorem u8_of {x : Nat} (h : x < 256) : (UInt8.ofNat x).toNat = x := by
  rw [UInt8.toNat_ofNat']; omega

theorem dec_enc (m : Nat) : ∀ r, dec (enc m ++ r) = some (m, r) := by
  induction m using Nat.strongRecOn with
  | ind m ih =>
    intro r
    by_cases h : m < 128
    · rw [enc_lo h, List.singleton_append, dec, u8_of (by omega), if_pos h]
    · rw [enc_hi (by omega), List.cons_append, dec, u8_of (by omega), if_neg (by omega), ih (m / 128) (by omega)]
      simp only
      rw [if_neg (by omega)]
      have e : 128 * (m / 128) + (m % 128 + 128 - 128) = m := by omega
      rw [e]

theorem enc_dec : ∀ (l : List UInt8) (m : Nat) (r : List UInt8), dec l = some (m, r) → l = enc m ++ r := by
  intro l
  induction l with
  | nil => intro m r h; simp [dec] at h
  | cons b l ih =>
    intro m r h
    have hb := b.toNat_lt
    rw [dec] at h
    by_cases h1 : b.toNat < 128
    · rw [if_pos h1] at h
      simp only [Option.some.injEq, Prod.mk.injEq] at h
      obtain ⟨rfl, rfl⟩ := h
      rw [enc_lo h1]; simp
    · rw [if_neg h1] at h
      rcases hd : dec l with _ | ⟨m', r'⟩
      · rw [hd] at h; simp at h
      · rw [hd] at h
        simp only at h
        by_cases h2 : m' = 0
        · rw [if_pos h2] at h; simp at h
        · rw [if_neg h2] at h
          simp only [Option.some.injEq, Prod.mk.injEq] at h
          obtain ⟨hm, rfl⟩ := h
          have := ih m' r' hd
          rw [enc_hi (by omega), this]
          have e1 : m / 128 = m' := by omega
          have e2 : m % 128 + 128 = b.toNat := by omega
          rw [e1, e2]; simp

/-- what a reader finds: a number below 2^64. -/
def first (l : List UInt8) : Option (Nat × List UInt8) :=
  match dec l with
  | some (m, r) => if m < 18446744073709551616 then some (m, r) else none
  | none => none

theorem first_enc {m : Nat} (h : m < 18446744073709551616) (r : List UInt8) : first (enc m ++ r) = some (m, r) := by
  rw [first, dec_enc]; simp only; rw [if_pos h]

theorem first_some {l r : List UInt8} {m : Nat} (h : first l = some (m, r)) : l = enc m ++ r ∧ m < 18446744073709551616 := by
  rw [first] at h
  rcases hd : dec l with _ | ⟨m', r'⟩
  · rw [hd] at h; simp at h
  · rw [hd] at h
    simp only at h
    by_cases h2 : m' < 18446744073709551616
    · rw [if_pos h2] at h
      simp only [Option.some.injEq, Prod.mk.injEq] at h
      obtain ⟨rfl, rfl⟩ := h
      exact ⟨enc_dec _ _ _ hd, h2⟩
    · rw [if_neg h2] at h; simp at h

theorem first_none {l : List UInt8} (h : first l = none) {m : Nat} (hm : m < 18446744073709551616) (r : List UInt8) : l ≠ enc m ++ r := by
  intro e
  rw [e, first_enc hm] at h
  simp at h

/-- The bytes of a number, one by one. -/
theorem enc_at (i : Nat) : ∀ m : Nat, (i + 1 < (enc m).length → (enc m)[i]? = some (UInt8.ofNat (m / 128 ^ i % 128 + 128)) ∧ 128 ^ (i + 1) ≤ m) ∧
    (i + 1 = (enc m).length → (enc m)[i]? = some (UInt8.ofNat (m / 128 ^ i)) ∧ m / 128 ^ i < 128 ∧ (0 < i → 0 < m / 128 ^ i)) := by
  induction i with
  | zero =>
    intro m
    by_cases h : m < 128
    · rw [enc_lo h]; simp; exact h
    · rw [enc_hi (by omega)]
      have := enc_pos (m / 128)
      refine ⟨fun _ => ⟨by simp, by simp; omega⟩, fun hl => ?_⟩
      rw [List.length_cons] at hl; omega
  | succ i ih =>
    intro m
    by_cases h : m < 128
    · rw [enc_lo h]; simp
    · rw [enc_hi (by omega)]
      obtain ⟨i1, i2⟩ := ih (m / 128)
      have e : m / 128 ^ (i + 1) = m / 128 / 128 ^ i := by rw [Nat.pow_succ, Nat.mul_comm, Nat.div_div_eq_div_mul]
      rw [e]
      refine ⟨fun hl => ?_, fun hl => ?_⟩
      · obtain ⟨a, b⟩ := i1 (by simpa using hl)
        refine ⟨by simpa using a, ?_⟩
        rw [Nat.pow_succ]
        have := Nat.mul_le_mul_right 128 b
        have h3 : m / 128 * 128 ≤ m := Nat.div_mul_le_self m 128
        omega
      · obtain ⟨a, b, c⟩ := i2 (by simpa using hl)
        refine ⟨by simpa using a, b, fun _ => ?_⟩
        by_cases h0 : i = 0
        · subst h0; simp; omega
        · exact c (by omega)

/-- Prepending the bytes of low groups. -/
theorem enc_join (i : Nat) : ∀ (a m : Nat), a < 128 ^ i → (0 < m ∨ i = 0) → ∃ p : List UInt8, enc (a + 128 ^ i * m) = p ++ enc m ∧ p.length = i := by
  induction i with
  | zero => intro a m h _; refine ⟨[], ?_, rfl⟩; have : a = 0 := by simpa using h
            subst this; simp
  | succ i ih =>
    intro a m h hm
    have hm' : 0 < m := by rcases hm with h | h; exact h; omega
    have hp : 1 ≤ 128 ^ i := Nat.pow_pos (by omega)
    obtain ⟨p, e, hl⟩ := ih (a / 128) m (by rw [Nat.div_lt_iff_lt_mul (by omega), ← Nat.pow_succ]; exact h) (.inl hm')
    have hx : (a + 128 ^ (i + 1) * m) / 128 = a / 128 + 128 ^ i * m := by
      rw [Nat.pow_succ, Nat.mul_comm (128 ^ i) 128, Nat.mul_assoc, Nat.add_mul_div_left _ _ (by omega)]
    have hge : 128 ≤ a + 128 ^ (i + 1) * m := by
      rw [Nat.pow_succ, Nat.mul_comm (128 ^ i) 128, Nat.mul_assoc]
      have : 1 ≤ 128 ^ i * m := Nat.mul_pos (by omega) hm'
      omega
    rw [enc_hi hge, hx, e]
    exact ⟨_ :: p, rfl, by simp [hl]⟩

/-- Zigzag: an int as a number, and back. -/
def zig (n : Int) : Nat := if n < 0 then (-2 * n - 1).toNat else (2 * n).toNat
def zag (m : Nat) : Int := if m % 2 = 1 then -((m / 2 : Nat) : Int) - 1 else ((m / 2 : Nat) : Int)
theorem zag_zig (n : Int) : zag (zig n) = n := by unfold zag zig; split <;> split <;> omega
theorem zig_zag (m : Nat) : zig (zag m) = m := by unfold zag zig; split <;> split <;> omega
theorem zig_lt {n : Int} (h0 : -9223372036854775808 ≤ n) (h1 : n ≤ 9223372036854775807) : zig n < 18446744073709551616 := by unfold zig; split <;> omega
theorem zag_in {m : Nat} (h : m < 18446744073709551616) : -9223372036854775808 ≤ zag m ∧ zag m ≤ 9223372036854775807 := by unfold zag; split <;> omega

/-- A list of bytes as a string. -/
def bs (l : List UInt8) : ByteArray := ⟨l.toArray⟩
theorem bs_size (l : List UInt8) : (bs l).size = l.length := by simp [bs, ByteArray.size]
theorem bs_data (s : ByteArray) : bs s.data.toList = s := by simp [bs]
theorem bs_append (a b : List UInt8) : bs a ++ bs b = bs (a ++ b) := by
  apply ByteArray.ext; simp [bs, ByteArray.data_append]
theorem bs_drop (l : List UInt8) (k : Nat) : (bs l).extract k (bs l).size = bs (l.drop k) := by
  apply ByteArray.ext
  apply Array.ext'
  rw [bs_size]
  simp only [bs, ByteArray.data_extract, List.extract_toArray, List.extract_eq_take_drop]
  rw [List.take_of_length_le (by simp)]
theorem bs_take (l : List UInt8) (k : Nat) : (bs l).extract 0 k = bs (l.take k) := by
  apply ByteArray.ext
  apply Array.ext'
  simp [bs, List.extract_eq_take_drop]
theorem bs_inj {a b : List UInt8} (h : bs a = bs b) : a = b := by
  have := congrArg (fun s : ByteArray => s.data.toList) h
  simpa [bs] using this
theorem bs_get (l : List UInt8) (k : Nat) (h : k < (bs l).size) : (bs l)[k] = l[k]'(by rw [bs_size] at h; exact h) := by
  simp [bs, ByteArray.getElem_eq_getElem_data]

/-- What a reader holds: what is left, and whether it has failed. -/
structure St where
  l : List UInt8
  bad : Bool
def St.fail : St := ⟨[], true⟩
def St.ok (st : St) : Prop := st.bad = true → st.l = []
theorem St.fail_ok : St.fail.ok := fun _ => rfl

def fNumber (st : St) : Nat × St :=
  match first st.l with
  | some (m, r) => (m, ⟨r, st.bad⟩)
  | none => (0, St.fail)
def fNum (st : St) : Nat × St := if (fNumber st).1 < 9223372036854775808 then fNumber st else (0, St.fail)
def fInt (st : St) : Int × St := (zag (fNumber st).1, (fNumber st).2)
def fLen (st : St) : Nat × St := if (fNum st).1 ≤ (fNum st).2.l.length then fNum st else (0, St.fail)
def fText (st : St) : List UInt8 × St := ((fLen st).2.l.take (fLen st).1, ⟨(fLen st).2.l.drop (fLen st).1, (fLen st).2.bad⟩)

/-- k elements more, behind acc. -/
def fRep {α : Type} (item : St → α × St) : Nat → List α → St → List α × St
  | 0, acc, st => (acc, st)
  | k + 1, acc, st => if (item st).2.bad = true then ([], (item st).2) else fRep item k (acc ++ [(item st).1]) (item st).2
def fList {α : Type} (item : St → α × St) (st : St) : List α × St := fRep item (fLen st).1 [] (fLen st).2

theorem first_nil : first [] = none := rfl
theorem fNumber_lt (st : St) : (fNumber st).1 < 18446744073709551616 := by
  unfold fNumber
  rcases h : first st.l with _ | ⟨m, r⟩
  · simp
  · exact (first_some h).2
theorem fNum_lt (st : St) : (fNum st).1 < 9223372036854775808 := by
  unfold fNum
  split
  · assumption
  · simp
theorem first_len {l r : List UInt8} {m : Nat} (h : first l = some (m, r)) : r.length + 1 ≤ l.length := by
  obtain ⟨e, _⟩ := first_some h
  have := enc_pos m
  rw [e, List.length_append]; omega
theorem fNumber_len (st : St) : (fNumber st).2.l.length ≤ st.l.length := by
  unfold fNumber
  rcases h : first st.l with _ | ⟨m, r⟩
  · simp [St.fail]
  · have := first_len h; simp; omega
theorem fNumber_ok (st : St) (h : st.ok) : (fNumber st).2.ok := by
  unfold fNumber
  rcases hf : first st.l with _ | ⟨m, r⟩
  · exact St.fail_ok
  · intro hb
    have : st.l = [] := h hb
    rw [this] at hf; simp [first_nil] at hf
theorem fNum_ok (st : St) (h : st.ok) : (fNum st).2.ok := by
  unfold fNum
  split
  · exact fNumber_ok st h
  · exact St.fail_ok
theorem fNum_len (st : St) : (fNum st).2.l.length ≤ st.l.length := by
  unfold fNum
  split
  · exact fNumber_len st
  · simp [St.fail]
theorem fLen_ok (st : St) (h : st.ok) : (fLen st).2.ok := by
  unfold fLen
  split
  · exact fNum_ok st h
  · exact St.fail_ok
theorem fLen_len (st : St) : (fLen st).2.l.length ≤ st.l.length := by
  unfold fLen
  split
  · exact fNum_len st
  · simp [St.fail]
theorem fLen_le (st : St) : (fLen st).1 ≤ (fLen st).2.l.length := by
  unfold fLen
  split
  · assumption
  · simp [St.fail]
theorem fInt_ok (st : St) (h : st.ok) : (fInt st).2.ok := fNumber_ok st h
theorem fInt_len (st : St) : (fInt st).2.l.length ≤ st.l.length := fNumber_len st
theorem fText_ok (st : St) (h : st.ok) : (fText st).2.ok := by
  intro hb
  have := fLen_ok st h hb
  show List.drop _ _ = _
  rw [this]; simp
theorem fText_len (st : St) : (fText st).2.l.length ≤ st.l.length := by
  have := fLen_len st
  show (List.drop _ _).length ≤ _
  rw [List.length_drop]; omega
theorem fRep_ok {α : Type} (item : St → α × St) (hi : ∀ st : St, st.ok → (item st).2.ok) : ∀ (k : Nat) (acc : List α) (st : St), st.ok → (fRep item k acc st).2.ok := by
  intro k
  induction k with
  | zero => intro acc st h; exact h
  | succ k ih =>
    intro acc st h
    rw [fRep]
    split
    · exact hi st h
    · exact ih _ _ (hi st h)
theorem fList_ok {α : Type} (item : St → α × St) (hi : ∀ st : St, st.ok → (item st).2.ok) (st : St) (h : st.ok) : (fList item st).2.ok :=
  fRep_ok item hi _ _ _ (fLen_ok st h)
end Go.Proofs.Ytebepofbngdccaa
