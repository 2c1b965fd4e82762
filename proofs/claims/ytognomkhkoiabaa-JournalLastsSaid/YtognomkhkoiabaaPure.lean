/-
  Plain facts about bytes, fields and 64-bit numbers: the value of a field of little-endian bytes, signed or not; no program in sight.
-/
import Derived.WalkKit
namespace Go.Proofs.Ytognomkhkoiabaa.W1
set_option linter.unusedVariables false
set_option linter.unusedSimpArgs false
open Go.RowKit (wrap64)

theorem int_bd {a : Int} (h : (Lit.int .i64 a).wf = true) : -9223372036854775808 ≤ a ∧ a ≤ 9223372036854775807 := by
  simp only [Lit.wf, IntKind.min, IntKind.max, IntKind.signed, IntKind.bits, Bool.and_eq_true, decide_eq_true_eq, if_true] at h
  omega

/-- The number that little-endian bytes spell. -/
def leV : List UInt8 → Nat
  | [] => 0
  | b :: r => b.toNat + 256 * leV r

theorem leV_append (l r : List UInt8) : leV (l ++ r) = leV l + 256 ^ l.length * leV r := by
  induction l with
  | nil => simp [leV]
  | cons b t ih => simp only [List.cons_append, leV, ih, List.length_cons, Nat.pow_succ, Nat.mul_add]; rw [← Nat.add_assoc, Nat.mul_comm (256 ^ t.length) 256, Nat.mul_assoc]

theorem leV_lt (l : List UInt8) : leV l < 256 ^ l.length := by
  induction l with
  | nil => simp [leV]
  | cons b t ih =>
    have hb := b.toNat_lt
    simp only [leV, List.length_cons, Nat.pow_succ]
    omega

theorem leV_snoc (l : List UInt8) (b : UInt8) : leV (l ++ [b]) = leV l + 256 ^ l.length * b.toNat := by
  rw [leV_append]; simp [leV]

/-- The size of a field. -/
def isSize (n : Int) : Prop := n = 1 ∨ n = 2 ∨ n = 4 ∨ n = 8
/-- There is a field of this size at this offset. -/
def isField (s : ByteArray) (p n : Int) : Prop := isSize n ∧ 0 ≤ p ∧ p ≤ s.size - n
instance (n : Int) : Decidable (isSize n) := by unfold isSize; infer_instance
instance (s : ByteArray) (p n : Int) : Decidable (isField s p n) := by unfold isField; infer_instance

/-- The signed number of n bytes whose unsigned number is u. -/
def sgn (n : Int) (u : Nat) : Int := if n = 1 then (if u < 128 then u else u - 256) else if n = 2 then (if u < 32768 then u else u - 65536) else if n = 4 then (if u < 2147483648 then u else u - 4294967296) else wrap64 u
/-- The value of a field. -/
def valOf (n : Int) (g : Bool) (l : List UInt8) : Int := if g = true ∨ n = 8 then sgn n (leV l) else leV l
/-- The bytes of a field. -/
def bytesAt (s : ByteArray) (p n : Int) : List UInt8 := (s.data.toList.drop p.toNat).take n.toNat

theorem bytesAt_length (s : ByteArray) (p n : Int) (h : isField s p n) : (bytesAt s p n).length = n.toNat := by
  obtain ⟨hn, h0, h1⟩ := h
  have : s.data.toList.length = s.size := by simp
  simp only [bytesAt, List.length_take, List.length_drop, this]
  rcases hn with rfl | rfl | rfl | rfl <;> omega

theorem bytesAt_snoc (s : ByteArray) (p : Int) (k : Nat) (h0 : 0 ≤ p) (h1 : p + k < s.size) (hb : (p + (k : Int)).toNat < s.size) :
    (s.data.toList.drop p.toNat).take (k + 1) = (s.data.toList.drop p.toNat).take k ++ [s[(p + (k : Int)).toNat]'hb] := by
  obtain ⟨q, rfl⟩ := Int.eq_ofNat_of_zero_le h0
  have hq : ((q : Int) + (k : Int)).toNat = q + k := by omega
  have hl : k < (s.data.toList.drop q).length := by simp; omega
  simp only [Int.toNat_natCast]
  rw [List.take_succ_eq_append_getElem hl]
  congr 2
  simp only [List.getElem_drop, hq]
  rfl

theorem val_unsigned (n : Int) (l : List UInt8) (hn : isSize n) (h : leV l < 256 ^ n.toNat) : wrap64 (leV l) = valOf n false l := by
  rcases hn with rfl | rfl | rfl | rfl
  all_goals simp [valOf, sgn] at *
  all_goals (unfold wrap64; omega)

theorem val_signed (n : Int) (l : List UInt8) : sgn n (leV l) = valOf n true l := by simp [valOf]

theorem wrap_add_mod (x y : Int) (h : x % 18446744073709551616 = y % 18446744073709551616) : wrap64 x = wrap64 y := by
  unfold wrap64; omega

theorem ofInt_wrap (x : Nat) : (BitVec.ofInt 64 (wrap64 x)).toNat = x % 18446744073709551616 := by
  rw [BitVec.toNat_ofInt]
  unfold wrap64
  omega

/-- OR of a number below 2^i and a multiple of 2^i. -/
theorem or_join (a b i : Nat) (hi : i ≤ 56) (ha : a < 2 ^ i) : bits .or .i64 (wrap64 (a : Int)) (wrap64 ((b * 2 ^ i : Nat) : Int)) = wrap64 ((a + 2 ^ i * b : Nat) : Int) := by
  have h64 : (2 : Nat) ^ 64 = 18446744073709551616 := by decide
  have hle : (2 : Nat) ^ i ≤ 2 ^ 56 := Nat.pow_le_pow_right (by decide) hi
  have h56 : (2 : Nat) ^ 56 = 72057594037927936 := by decide
  show IntKind.i64.wrap ((BitVec.ofInt 64 (wrap64 (a : Int)) ||| BitVec.ofInt 64 (wrap64 ((b * 2 ^ i : Nat) : Int))).toNat : Int) = _
  rw [BitVec.toNat_or, ofInt_wrap, ofInt_wrap, Nat.mod_eq_of_lt (a := a) (by omega), IntWalk.i64_left]
  have hm : b * 2 ^ i % 18446744073709551616 = 2 ^ i * (b % 2 ^ (64 - i)) := by
    have : 18446744073709551616 = 2 ^ i * 2 ^ (64 - i) := by rw [← Nat.pow_add, ← h64]; congr 1; omega
    rw [this, Nat.mul_comm b, Nat.mul_mod_mul_left]
  have hor : a ||| (b * 2 ^ i % 18446744073709551616) = a + b * 2 ^ i % 18446744073709551616 := by
    rw [hm, Nat.or_comm, ← Nat.two_pow_add_eq_or_of_lt ha, Nat.add_comm]
  rw [hor]
  apply wrap_add_mod
  have : b * 2 ^ i = 2 ^ i * b := Nat.mul_comm _ _
  rw [this]
  omega

/-- A number of so many bits, signed or not. -/
def fitsB (n b : Int) (g : Bool) : Bool := if b < 1 ∨ 64 < b then false else if g = true then (n / 2 ^ (b.toNat - 1) == 0 || n / 2 ^ (b.toNat - 1) == -1) else (decide (0 ≤ n) && n / 2 ^ b.toNat == 0)

theorem fitsB_out (n b : Int) (g : Bool) (h : b < 1 ∨ 64 < b) : fitsB n b g = false := by unfold fitsB; rw [if_pos h]
theorem fitsB_uns (n b : Int) (h1 : 1 ≤ b) (h2 : b ≤ 64) : fitsB n b false = (decide (0 ≤ n) && n / 2 ^ b.toNat == 0) := by unfold fitsB; rw [if_neg (by omega)]; rfl
theorem fitsB_sig (n b : Int) (h1 : 1 ≤ b) (h2 : b ≤ 64) : fitsB n b true = (n / 2 ^ (b.toNat - 1) == 0 || n / 2 ^ (b.toNat - 1) == -1) := by unfold fitsB; rw [if_neg (by omega)]; rfl

/-- Within the bounds of rounding. -/
def inDown (n b : Int) : Prop := 1 ≤ b ∧ b ≤ 1099511627776 ∧ -1152921504606846976 ≤ n ∧ n ≤ 1152921504606846976
instance (n b : Int) : Decidable (inDown n b) := by unfold inDown; infer_instance
/-- Rounding down, and up. -/
def downI (n b : Int) : Int := if inDown n b then n / b * b else n
def upI (n b : Int) : Int := if inDown n b then -((-n) / b * b) else n

theorem down_val (n b : Int) (h1 : 1 ≤ b) : n / b * b = n - n % b := by
  have := Int.mul_ediv_add_emod n b
  rw [Int.mul_comm] at this
  omega

theorem down_out (n b : Int) (h : ¬ inDown n b) : downI n b = n := if_neg h

theorem tmod_neg (n b : Int) (h1 : 1 ≤ b) (h : n.tmod b < 0) : n - (n.tmod b + b) = n - n % b := by
  have := Int.tmod_eq_emod (a := n) (b := b)
  have h2 := Int.emod_nonneg n (b := b) (by omega)
  split at this <;> omega
theorem tmod_pos (n b : Int) (h1 : 1 ≤ b) (h : 0 ≤ n.tmod b) : n - n.tmod b = n - n % b := by
  have := Int.tmod_eq_emod (a := n) (b := b)
  have h2 := Int.emod_lt_of_pos n (b := b) (by omega)
  split at this <;> omega
theorem tmod_bd (n b : Int) (h1 : 1 ≤ b) : -b < n.tmod b ∧ n.tmod b < b := by
  have := Int.tmod_eq_emod (a := n) (b := b)
  have h2 := Int.emod_lt_of_pos n (b := b) (by omega)
  have h3 := Int.emod_nonneg n (b := b) (by omega)
  split at this <;> omega

/-- An alignment: a power of 2 from 1 to 256. -/
def powerB (n : Int) : Bool := n == 1 || n == 2 || n == 4 || n == 8 || n == 16 || n == 32 || n == 64 || n == 128 || n == 256

theorem power_small : ∀ k : Fin 257, 1 ≤ k.val → (bits .and .i64 (k.val : Int) ((k.val : Int) - 1) == 0) = powerB (k.val : Int) := by decide +kernel
theorem power_in (n : Int) (h1 : 1 ≤ n) (h2 : n ≤ 256) : (bits .and .i64 n (n - 1) == 0) = powerB n := by
  obtain ⟨k, rfl⟩ := Int.eq_ofNat_of_zero_le (show 0 ≤ n by omega)
  exact power_small ⟨k, by omega⟩ (by show 1 ≤ k; omega)
theorem power_out (n : Int) (h : n < 1 ∨ 256 < n) : powerB n = false := by
  unfold powerB
  simp only [Bool.or_eq_false_iff, beq_eq_false_iff_ne]
  refine ⟨⟨⟨⟨⟨⟨⟨⟨?_, ?_⟩, ?_⟩, ?_⟩, ?_⟩, ?_⟩, ?_⟩, ?_⟩, ?_⟩ <;> omega

/-- The bytes of a number, the lowest first. -/
def byteOf (x : Int) (j : Nat) : UInt8 := UInt8.ofNat (x / 2 ^ (8 * j) % 256).toNat
def bytesOf (x : Int) (n : Nat) : List UInt8 := (List.range n).map (byteOf x)
theorem byteOf_val (x : Int) (j : Nat) : ((byteOf x j).toNat : Int) = x / 2 ^ (8 * j) % 256 := by
  unfold byteOf
  have h0 := Int.emod_nonneg (x / 2 ^ (8 * j)) (b := 256) (by decide)
  have h1 := Int.emod_lt_of_pos (x / 2 ^ (8 * j)) (b := 256) (by decide)
  simp only [UInt8.toNat_ofNat']
  omega
theorem bytesOf_length (x : Int) (n : Nat) : (bytesOf x n).length = n := by simp [bytesOf]
theorem bytesOf_at (x : Int) (n j : Nat) (h : j < (bytesOf x n).length) : (bytesOf x n)[j] = byteOf x j := by simp [bytesOf]
/-- What Put makes of s. -/
def putS (s : ByteArray) (p n x : Int) : ByteArray := s.extract 0 p.toNat ++ ⟨(bytesOf x n.toNat).toArray⟩ ++ s.extract (p + n).toNat s.size

theorem val_signed8 (l : List UInt8) (g : Bool) : wrap64 (leV l) = valOf 8 g l := by simp [valOf, sgn]
theorem val_low (n : Int) (l : List UInt8) (hn : n = 1 ∨ n = 2 ∨ n = 4) (h : leV l < 256 ^ n.toNat) : wrap64 (leV l) = leV l := by
  rcases hn with rfl | rfl | rfl
  all_goals simp at h
  all_goals (unfold wrap64; omega)
theorem val_neg (n : Int) (l : List UInt8) (hn : n = 1 ∨ n = 2 ∨ n = 4) (h : leV l < 256 ^ n.toNat) (hh : ((256 ^ n.toNat : Nat) : Int) / 2 ≤ leV l) : (leV l : Int) - (256 ^ n.toNat : Nat) = valOf n true l := by
  rcases hn with rfl | rfl | rfl
  all_goals simp [valOf, sgn] at *
  all_goals (intro _; omega)
theorem val_pos (n : Int) (l : List UInt8) (hn : n = 1 ∨ n = 2 ∨ n = 4) (h : leV l < 256 ^ n.toNat) (hh : ¬ ((256 ^ n.toNat : Nat) : Int) / 2 ≤ leV l) : (leV l : Int) = valOf n true l := by
  rcases hn with rfl | rfl | rfl
  all_goals simp [valOf, sgn] at *
  all_goals (intro _; omega)

theorem fits_half (n H : Int) (h : 1 ≤ H) : (n / H == 0 || n / H == -1) = (decide (-H ≤ n) && decide (n < H)) := by
  have e := Int.mul_ediv_add_emod n H
  have e1 := Int.emod_nonneg n (b := H) (by omega)
  have e2 := Int.emod_lt_of_pos n (b := H) (by omega)
  by_cases a : -H ≤ n
  · by_cases b : n < H
    · by_cases c : 0 ≤ n
      · have : n / H = 0 := Int.ediv_eq_zero_of_lt c b
        simp [this, a, b]
      · have : n / H = -1 := by
          have := Int.add_mul_ediv_right n 1 (c := H) (by omega)
          have h2 : (n + 1 * H) / H = 0 := Int.ediv_eq_zero_of_lt (by omega) (by omega)
          omega
        simp [this, a, b]
    · have : 1 ≤ n / H := (Int.le_ediv_iff_mul_le (by omega)).2 (by omega)
      have h1 : (n / H == 0) = false := by simp; omega
      have h2 : (n / H == -1) = false := by simp; omega
      simp [h1, h2, b]
  · have : n / H < -1 := (Int.ediv_lt_iff_lt_mul (by omega)).2 (by omega)
    have h1 : (n / H == 0) = false := by simp; omega
    have h2 : (n / H == -1) = false := by simp; omega
    simp [h1, h2, a]

theorem fits_nonneg (n P : Int) (h : 1 ≤ P) (h0 : 0 ≤ n) : (n / P == 0) = decide (n < P) := by
  by_cases b : n < P
  · have : n / P = 0 := Int.ediv_eq_zero_of_lt h0 b
    simp [this, b]
  · have : 1 ≤ n / P := (Int.le_ediv_iff_mul_le (by omega)).2 (by omega)
    have h1 : (n / P == 0) = false := by simp; omega
    simp [h1, b]

theorem pow_pos' (k : Nat) : (1 : Int) ≤ 2 ^ k := by
  have : 0 < 2 ^ k := Nat.two_pow_pos k
  have h : ((2 ^ k : Nat) : Int) = (2 : Int) ^ k := by norm_cast
  omega
theorem pow_le' (k m : Nat) (h : k ≤ m) : (2 : Int) ^ k ≤ 2 ^ m := by
  have : 2 ^ k ≤ 2 ^ m := Nat.pow_le_pow_right (by decide) h
  have h1 : ((2 ^ k : Nat) : Int) = (2 : Int) ^ k := by norm_cast
  have h2 : ((2 ^ m : Nat) : Int) = (2 : Int) ^ m := by norm_cast
  omega

/-- Rounding, as the reference does it. -/
theorem tdiv_down (n b : Int) (h1 : 1 ≤ b) : (n < n.tdiv b * b → (n.tdiv b - 1) * b = n - n % b) ∧ (¬ n < n.tdiv b * b → n.tdiv b * b = n - n % b) ∧ n.tdiv b * b = n - n.tmod b := by
  have e := Int.mul_tdiv_add_tmod n b
  have e' : b * n.tdiv b = n.tdiv b * b := Int.mul_comm _ _
  have hd := tmod_neg n b h1
  have hp := tmod_pos n b h1
  have hs : (n.tdiv b - 1) * b = n.tdiv b * b - b := by rw [Int.sub_mul]; omega
  refine ⟨fun h => ?_, fun h => ?_, by omega⟩
  · have := hd (by omega); omega
  · have := hp (by omega); omega

theorem tdiv_bd (n b : Int) (h1 : 1 ≤ b) (lo : -1152921504606846976 ≤ n) (hi : n ≤ 1152921504606846976) : -1152921504606846976 ≤ n.tdiv b ∧ n.tdiv b ≤ 1152921504606846976 := by
  have h2 := Int.natAbs_tdiv_le_natAbs n b
  omega

theorem tdiv_mul (n b : Int) : n.tdiv b * b = n - n.tmod b := by
  have e := Int.mul_tdiv_add_tmod n b
  have e' : b * n.tdiv b = n.tdiv b * b := Int.mul_comm _ _
  omega
theorem tdiv_pred (n b : Int) : (n.tdiv b - 1) * b = n - n.tmod b - b := by
  have e := tdiv_mul n b
  rw [Int.sub_mul]; omega
theorem tdiv_succ (n b : Int) : (n.tdiv b + 1) * b = n - n.tmod b + b := by
  have e := tdiv_mul n b
  rw [Int.add_mul]; omega

theorem rdown_low (n b : Int) (h : inDown n b) (hm : n.tmod b < 0) : downI n b = n - n.tmod b - b := by
  have := tmod_neg n b h.1 hm
  unfold downI; rw [if_pos h, down_val n b h.1]; omega
theorem rdown_at (n b : Int) (h : inDown n b) (hm : 0 ≤ n.tmod b) : downI n b = n - n.tmod b := by
  have := tmod_pos n b h.1 hm
  unfold downI; rw [if_pos h, down_val n b h.1]; omega

theorem inDown_neg (n b : Int) (h : inDown n b) : inDown (-n) b := by unfold inDown at *; omega
theorem upI_down (n b : Int) (h : inDown n b) : upI n b = -downI (-n) b := by
  unfold upI downI; rw [if_pos h, if_pos (inDown_neg n b h)]
theorem rup_high (n b : Int) (h : inDown n b) (hm : 0 < n.tmod b) : upI n b = n - n.tmod b + b := by
  have := rdown_low (-n) b (inDown_neg n b h) (by rw [Int.neg_tmod]; omega)
  rw [upI_down n b h, this, Int.neg_tmod]; omega
theorem rup_at (n b : Int) (h : inDown n b) (hm : n.tmod b ≤ 0) : upI n b = n - n.tmod b := by
  have := rdown_at (-n) b (inDown_neg n b h) (by rw [Int.neg_tmod]; omega)
  rw [upI_down n b h, this, Int.neg_tmod]; omega
theorem up_out (n b : Int) (h : ¬ inDown n b) : upI n b = n := if_neg h

theorem fits_both (x : Int) (b : Int) (P : Int) (h1 : 1 ≤ b) (h2 : b ≤ 64) (hP : (2 : Int) ^ (b.toNat - 1) = P) : (fitsB x b true || fitsB x b false) = (decide (-P ≤ x) && decide (x < 2 * P)) := by
  have hP1 : 1 ≤ P := by rw [← hP]; exact pow_pos' _
  have hs : (2 : Int) ^ b.toNat = 2 * P := by
    have : b.toNat = (b.toNat - 1) + 1 := by omega
    rw [this, Int.pow_succ, hP, Int.mul_comm]
  rw [fitsB_sig x b h1 h2, fitsB_uns x b h1 h2, hP, hs, fits_half x P hP1]
  by_cases h0 : 0 ≤ x
  · rw [fits_nonneg x (2 * P) (by omega) h0]
    by_cases a : x < P
    · have : x < 2 * P := by omega
      have : -P ≤ x := by omega
      simp [*]
    · have : -P ≤ x := by omega
      simp [*]
  · by_cases a : -P ≤ x
    · have : x < 2 * P := by omega
      have : x < P := by omega
      simp [*]
    · simp [*]
theorem fits_both1 (x : Int) : (fitsB x 8 true || fitsB x 8 false) = (decide (-128 ≤ x) && decide (x < 256)) := fits_both x 8 128 (by decide) (by decide) (by decide)
theorem fits_both2 (x : Int) : (fitsB x 16 true || fitsB x 16 false) = (decide (-32768 ≤ x) && decide (x < 65536)) := fits_both x 16 32768 (by decide) (by decide) (by decide)
theorem fits_both4 (x : Int) : (fitsB x 32 true || fitsB x 32 false) = (decide (-2147483648 ≤ x) && decide (x < 4294967296)) := fits_both x 32 2147483648 (by decide) (by decide) (by decide)
theorem fits_both8 (x : Int) (h1 : -9223372036854775808 ≤ x) (h2 : x ≤ 9223372036854775807) : (fitsB x 64 true || fitsB x 64 false) = true := by
  rw [fits_both x 64 9223372036854775808 (by decide) (by decide) (by decide)]
  simp; omega
end Go.Proofs.Ytognomkhkoiabaa.W1
