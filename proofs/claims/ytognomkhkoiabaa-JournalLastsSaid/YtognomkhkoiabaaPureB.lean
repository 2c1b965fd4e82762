/-
  Plain facts, continued: what is written is read again, and what was read is written back.
-/
import Derived.Test.YtognomkhkoiabaaPure
namespace Go.Proofs.Ytognomkhkoiabaa.W1
set_option linter.unusedVariables false
set_option linter.unusedSimpArgs false
open Go.RowKit (wrap64)

theorem emod_mul' (x a : Int) (ha : 1 ≤ a) : x % (a * 256) = x % a + (x / a % 256) * a := by
  have h1 := Int.mul_ediv_add_emod x a
  have h2 := Int.mul_ediv_add_emod (x / a) 256
  have h3 := Int.emod_nonneg x (b := a) (by omega)
  have h4 := Int.emod_lt_of_pos x (b := a) (by omega)
  have h5 := Int.emod_nonneg (x / a) (b := 256) (by omega)
  have h6 := Int.emod_lt_of_pos (x / a) (b := 256) (by omega)
  have h7 : (x / a % 256) * a ≤ 255 * a := Int.mul_le_mul_of_nonneg_right (by omega) (by omega)
  have h8 : 0 ≤ (x / a % 256) * a := Int.mul_nonneg h5 (by omega)
  have e1 : a * (x / a) = a * 256 * (x / a / 256) + (x / a % 256) * a := by
    have h2' := congrArg (fun z => a * z) h2
    simp only [Int.mul_add] at h2'
    rw [← Int.mul_assoc, Int.mul_comm a (x / a % 256)] at h2'
    exact h2'.symm
  exact ((Int.ediv_emod_unique (a := x) (b := a * 256) (q := x / a / 256) (by omega)).2 ⟨by omega, by omega, by omega⟩).2

theorem leV_bytesOf (x : Int) (n : Nat) : ((leV (bytesOf x n) : Nat) : Int) = x % 2 ^ (8 * n) := by
  induction n with
  | zero => simp [bytesOf, leV]
  | succ n ih =>
    have hb : bytesOf x (n + 1) = bytesOf x n ++ [byteOf x n] := by simp [bytesOf, List.range_succ]
    have hp := pow_pos' (8 * n)
    rw [hb, leV_snoc, bytesOf_length]
    have h256 : (((256 ^ n : Nat)) : Int) = 2 ^ (8 * n) := by
      rw [Int.natCast_pow, Int.pow_mul]; rfl
    rw [Int.natCast_add, Int.natCast_mul, ih, byteOf_val, h256]
    have hs : (2 : Int) ^ (8 * (n + 1)) = 2 ^ (8 * n) * 256 := by
      rw [Nat.mul_add, Int.pow_add]; rfl
    rw [hs, emod_mul' _ _ hp, Int.mul_comm]

theorem valOf_bytesOf (n x : Int) (g : Bool) (hn : isSize n) (h1 : -9223372036854775808 ≤ x) (h2 : x ≤ 9223372036854775807) (hx : (fitsB x (8 * n) true || fitsB x (8 * n) false) = true) :
    valOf n (decide (x < 0)) (bytesOf x n.toNat) = x := by
  have hl := leV_bytesOf x n.toNat
  have hb := leV_lt (bytesOf x n.toNat)
  rw [bytesOf_length] at hb
  unfold valOf
  rcases hn with rfl | rfl | rfl | rfl
  · have h : (fitsB x 8 true || fitsB x 8 false) = true := hx
    rw [fits_both1] at h
    simp at h hl hb
    by_cases h0 : x < 0 <;> simp [h0, sgn]
    all_goals (first | (split <;> omega) | omega)
  · have h : (fitsB x 16 true || fitsB x 16 false) = true := hx
    rw [fits_both2] at h
    simp at h hl hb
    by_cases h0 : x < 0 <;> simp [h0, sgn]
    all_goals (first | (split <;> omega) | omega)
  · have h : (fitsB x 32 true || fitsB x 32 false) = true := hx
    rw [fits_both4] at h
    simp at h hl hb
    by_cases h0 : x < 0 <;> simp [h0, sgn]
    all_goals (first | (split <;> omega) | omega)
  · simp at hl hb
    simp [sgn]
    unfold wrap64
    omega

/-- What is read fits. -/
theorem val_range (n : Int) (g : Bool) (l : List UInt8) (hn : isSize n) (hl : l.length = n.toNat) : fitsB (valOf n g l) (8 * n) (g || n == 8) = true := by
  have hb := leV_lt l
  rw [hl] at hb
  have key : ∀ (b P : Int) (x : Int), 1 ≤ b → b ≤ 64 → (2 : Int) ^ (b.toNat - 1) = P → -P ≤ x → x < P → fitsB x b true = true := by
    intro b P x b1 b2 hP x1 x2
    rw [fitsB_sig x b b1 b2, hP, fits_half x P (by rw [← hP]; exact pow_pos' _)]
    simp [x1, x2]
  have keyu : ∀ (b P : Int) (x : Int), 1 ≤ b → b ≤ 64 → (2 : Int) ^ b.toNat = P → 0 ≤ x → x < P → fitsB x b false = true := by
    intro b P x b1 b2 hP x1 x2
    rw [fitsB_uns x b b1 b2, hP, fits_nonneg x P (by rw [← hP]; exact pow_pos' _) x1]
    simp [x1, x2]
  unfold valOf
  rcases hn with rfl | rfl | rfl | rfl
  · simp at hb
    cases g
    · exact keyu 8 256 _ (by decide) (by decide) (by decide) (by simp) (by simp; omega)
    · exact key 8 128 _ (by decide) (by decide) (by decide) (by simp [sgn]; split <;> omega) (by simp [sgn]; split <;> omega)
  · simp at hb
    cases g
    · exact keyu 16 65536 _ (by decide) (by decide) (by decide) (by simp) (by simp; omega)
    · exact key 16 32768 _ (by decide) (by decide) (by decide) (by simp [sgn]; split <;> omega) (by simp [sgn]; split <;> omega)
  · simp at hb
    cases g
    · exact keyu 32 4294967296 _ (by decide) (by decide) (by decide) (by simp) (by simp; omega)
    · exact key 32 2147483648 _ (by decide) (by decide) (by decide) (by simp [sgn]; split <;> omega) (by simp [sgn]; split <;> omega)
  · simp at hb
    have : (g || ((8 : Int) == 8)) = true := by cases g <;> rfl
    rw [this]
    exact key 64 9223372036854775808 _ (by decide) (by decide) (by decide) (by simp [sgn]; unfold wrap64; omega) (by simp [sgn]; unfold wrap64; omega)

theorem val_fits (n : Int) (g : Bool) (l : List UInt8) (hn : isSize n) (hl : l.length = n.toNat) : (fitsB (valOf n g l) (8 * n) true || fitsB (valOf n g l) (8 * n) false) = true := by
  have h := val_range n g l hn hl
  cases hg : (g || n == 8)
  · rw [hg] at h; simp [h]
  · rw [hg] at h; simp [h]
theorem val_i64 (n : Int) (g : Bool) (l : List UInt8) (hn : isSize n) (hl : l.length = n.toNat) : -9223372036854775808 ≤ valOf n g l ∧ valOf n g l ≤ 9223372036854775807 := by
  have hb := leV_lt l
  rw [hl] at hb
  unfold valOf
  rcases hn with rfl | rfl | rfl | rfl
  all_goals
    simp at hb
    cases g <;> simp [sgn]
    all_goals (first | omega | (split <;> omega) | (unfold wrap64; omega))

/-- The bytes of a value are the bytes that it was read from. -/
theorem leV_inj : ∀ (l r : List UInt8), l.length = r.length → leV l = leV r → l = r
  | [], [], _, _ => rfl
  | a :: l, b :: r, h, e => by
    have ha := a.toNat_lt
    have hb := b.toNat_lt
    simp only [leV] at e
    have h1 : a.toNat = b.toNat := by omega
    have h2 : leV l = leV r := by omega
    rw [leV_inj l r (by simpa using h) h2, UInt8.toNat_inj.1 h1]
  | [], _ :: _, h, _ => by simp at h
  | _ :: _, [], h, _ => by simp at h

theorem bytesOf_val (n : Int) (g : Bool) (l : List UInt8) (hn : isSize n) (hl : l.length = n.toNat) : bytesOf (valOf n g l) n.toNat = l := by
  apply leV_inj
  · rw [bytesOf_length, hl]
  · have h := leV_bytesOf (valOf n g l) n.toNat
    have hb := leV_lt l
    rw [hl] at hb
    generalize leV (bytesOf (valOf n g l) n.toNat) = U at *
    have hv : ∃ V, leV l = V := ⟨_, rfl⟩
    obtain ⟨V, hv⟩ := hv
    unfold valOf at h
    rw [hv] at h hb ⊢
    rcases hn with rfl | rfl | rfl | rfl
    all_goals
      simp at hb h
      cases g <;> simp [sgn] at h
      all_goals (first | omega | (split at h <;> omega) | (unfold wrap64 at h; omega))

theorem ba_ext {a b : ByteArray} (h : a.data.toList = b.data.toList) : a = b := by
  cases a; cases b; simp at h; rw [h]
theorem extract_list (s : ByteArray) (a b : Nat) : (s.extract a b).data.toList = (s.data.toList.take b).drop a := by
  rw [ByteArray.data_extract, Array.toList_extract, List.extract_eq_take_drop, List.drop_take]
theorem putS_list (s : ByteArray) (p n x : Int) : (putS s p n x).data.toList = s.data.toList.take p.toNat ++ bytesOf x n.toNat ++ s.data.toList.drop (p + n).toNat := by
  unfold putS
  rw [ByteArray.data_append, ByteArray.data_append, Array.toList_append, Array.toList_append, extract_list, extract_list]
  have : s.data.toList.take s.size = s.data.toList := List.take_of_length_le (by simp)
  rw [this]
  simp

theorem putS_size (s : ByteArray) (p n x : Int) (h : isField s p n) : (putS s p n x).size = s.size := by
  have e : (putS s p n x).data.toList.length = s.data.toList.length := by
    rw [putS_list]
    obtain ⟨hn, h0, h1⟩ := h
    have hl : s.data.toList.length = s.size := by simp
    simp only [List.length_append, List.length_take, List.length_drop, bytesOf_length, hl]
    unfold isSize at hn
    omega
  simpa using e

theorem putS_field (s : ByteArray) (p n x : Int) (h : isField s p n) : isField (putS s p n x) p n := by
  have := putS_size s p n x h
  unfold isField at *
  rw [this]; exact h

theorem putS_bytes (s : ByteArray) (p n x : Int) (h : isField s p n) : bytesAt (putS s p n x) p n = bytesOf x n.toNat := by
  unfold bytesAt
  rw [putS_list]
  obtain ⟨hn, h0, h1⟩ := h
  have hl : s.data.toList.length = s.size := by simp
  have ht : (s.data.toList.take p.toNat).length = p.toNat := by rw [List.length_take, hl]; unfold isSize at hn; omega
  rw [List.append_assoc, List.drop_append_of_le_length (by omega), List.drop_of_length_le (by omega), List.nil_append, List.take_append_of_le_length (by rw [bytesOf_length]; omega), List.take_of_length_le (by rw [bytesOf_length]; omega)]

theorem putS_low (s : ByteArray) (p n x : Int) (h : isField s p n) : (putS s p n x).extract 0 p.toNat = s.extract 0 p.toNat := by
  apply ba_ext
  rw [extract_list, extract_list, putS_list]
  obtain ⟨hn, h0, h1⟩ := h
  have hl : s.data.toList.length = s.size := by simp
  have ht : (s.data.toList.take p.toNat).length = p.toNat := by rw [List.length_take, hl]; unfold isSize at hn; omega
  rw [List.append_assoc, List.take_append_of_le_length (by omega), List.take_of_length_le (by omega)]

theorem putS_high (s : ByteArray) (p n x : Int) (h : isField s p n) (z : Nat) (hz : z = s.size) : (putS s p n x).extract (p + n).toNat z = s.extract (p + n).toNat s.size := by
  subst hz
  have hsz := putS_size s p n x h
  have hpl : (putS s p n x).data.toList.length = s.size := by rw [← hsz]; simp
  apply ba_ext
  rw [extract_list, extract_list]
  obtain ⟨hn, h0, h1⟩ := h
  have hl : s.data.toList.length = s.size := by simp
  rw [List.take_of_length_le (by omega), List.take_of_length_le (by omega), putS_list]
  have ht : (s.data.toList.take p.toNat ++ bytesOf x n.toNat).length = (p + n).toNat := by rw [List.length_append, List.length_take, hl, bytesOf_length]; unfold isSize at hn; omega
  rw [List.drop_append_of_le_length (by omega), List.drop_of_length_le (by omega), List.nil_append]

theorem putS_same (s : ByteArray) (p n : Int) (g : Bool) (h : isField s p n) : putS s p n (valOf n g (bytesAt s p n)) = s := by
  apply ba_ext
  rw [putS_list, bytesOf_val n g _ h.1 (bytesAt_length s p n h)]
  obtain ⟨hn, h0, h1⟩ := h
  unfold bytesAt
  have e : (p + n).toNat = p.toNat + n.toNat := by unfold isSize at hn; omega
  rw [e, List.append_assoc, ← List.drop_drop, List.take_append_drop, List.take_append_drop]

/-- A field is made of its halves. -/
theorem bytesAt_split (s : ByteArray) (p : Int) (a b : Nat) (h0 : 0 ≤ p) : bytesAt s p (a + b : Nat) = bytesAt s p a ++ bytesAt s (p + a) b := by
  unfold bytesAt
  have e : (p + (a : Int)).toNat = p.toNat + a := by omega
  simp only [Int.toNat_natCast]
  rw [List.take_add, e, List.drop_drop]
theorem leV_split (s : ByteArray) (p : Int) (a b : Nat) (h0 : 0 ≤ p) (hl : (bytesAt s p a).length = a) : leV (bytesAt s p (a + b : Nat)) = leV (bytesAt s p a) + 256 ^ a * leV (bytesAt s (p + a) b) := by
  rw [bytesAt_split s p a b h0, leV_append, hl]

theorem parts8 (s : ByteArray) (p : Int) (h : isField s p 8) : valOf 8 true (bytesAt s p 8) = wrap64 (valOf 4 true (bytesAt s (p + 4) 4) * 4294967296) + valOf 4 false (bytesAt s p 4) ∨ valOf 8 true (bytesAt s p 8) = wrap64 (wrap64 (valOf 4 true (bytesAt s (p + 4) 4) * 4294967296) + valOf 4 false (bytesAt s p 4)) := by
  right
  have f4 : isField s p 4 := by unfold isField isSize at *; omega
  have g4 : isField s (p + 4) 4 := by unfold isField isSize at *; omega
  have l4 := bytesAt_length s p 4 f4
  have hs := leV_split s p 4 4 h.2.1 l4
  have b1 := leV_lt (bytesAt s p 4)
  have b2 := leV_lt (bytesAt s (p + 4) 4)
  rw [l4] at b1
  rw [bytesAt_length s (p + 4) 4 g4] at b2
  have e8 : bytesAt s p ((4 + 4 : Nat) : Int) = bytesAt s p 8 := rfl
  have e4 : bytesAt s p ((4 : Nat) : Int) = bytesAt s p 4 := rfl
  have e5 : bytesAt s (p + ((4 : Nat) : Int)) ((4 : Nat) : Int) = bytesAt s (p + 4) 4 := rfl
  rw [e8, e4, e5] at hs
  simp [valOf, sgn] at b1 b2 hs ⊢
  rw [hs]
  split <;> (unfold wrap64; omega)

theorem parts4 (s : ByteArray) (p : Int) (h : isField s p 4) : valOf 4 false (bytesAt s p 4) = valOf 2 false (bytesAt s (p + 2) 2) * 65536 + valOf 2 false (bytesAt s p 2) := by
  have f4 : isField s p 2 := by unfold isField isSize at *; omega
  have g4 : isField s (p + 2) 2 := by unfold isField isSize at *; omega
  have l4 := bytesAt_length s p 2 f4
  have hs := leV_split s p 2 2 h.2.1 l4
  have e8 : bytesAt s p ((2 + 2 : Nat) : Int) = bytesAt s p 4 := rfl
  have e4 : bytesAt s p ((2 : Nat) : Int) = bytesAt s p 2 := rfl
  have e5 : bytesAt s (p + ((2 : Nat) : Int)) ((2 : Nat) : Int) = bytesAt s (p + 2) 2 := rfl
  rw [e8, e4, e5] at hs
  simp [valOf] at hs ⊢
  omega
theorem parts2 (s : ByteArray) (p : Int) (h : isField s p 2) : valOf 2 false (bytesAt s p 2) = valOf 1 false (bytesAt s (p + 1) 1) * 256 + valOf 1 false (bytesAt s p 1) := by
  have f4 : isField s p 1 := by unfold isField isSize at *; omega
  have g4 : isField s (p + 1) 1 := by unfold isField isSize at *; omega
  have l4 := bytesAt_length s p 1 f4
  have hs := leV_split s p 1 1 h.2.1 l4
  have e8 : bytesAt s p ((1 + 1 : Nat) : Int) = bytesAt s p 2 := rfl
  have e4 : bytesAt s p ((1 : Nat) : Int) = bytesAt s p 1 := rfl
  have e5 : bytesAt s (p + ((1 : Nat) : Int)) ((1 : Nat) : Int) = bytesAt s (p + 1) 1 := rfl
  rw [e8, e4, e5] at hs
  simp [valOf] at hs ⊢
  omega
theorem val_low_bd (n : Int) (l : List UInt8) (hn : n = 1 ∨ n = 2 ∨ n = 4) (hl : l.length = n.toNat) : 0 ≤ valOf n false l ∧ valOf n false l < 256 ^ n.toNat := by
  have hb := leV_lt l
  rw [hl] at hb
  rcases hn with rfl | rfl | rfl
  all_goals simp [valOf] at *
  all_goals omega
theorem val_high_bd (l : List UInt8) (hl : l.length = 4) : -2147483648 ≤ valOf 4 true l ∧ valOf 4 true l < 2147483648 := by
  have hb := leV_lt l
  rw [hl] at hb
  simp [valOf, sgn] at *
  constructor <;> split <;> omega
end Go.Proofs.Ytognomkhkoiabaa.W1
