/-
  Plain mathematics of the CRC: one step halves a register; on numbers of any size the step is linear, so a whole string is one number.
-/
import Derived.Test.YtcekmedfphmpcaaDoorChecked
namespace Go.Proofs.YtcekmedfphmpcaaDoor
set_option linter.unusedVariables false
set_option linter.unusedSimpArgs false

/-- One step. -/
def half (x : Nat) : Nat := if x % 2 = 1 then x / 2 ^^^ 2197175160 else x / 2
def steps : Nat → Nat → Nat
  | 0, x => x
  | n + 1, x => steps n (half x)
theorem steps_add (m n x : Nat) : steps (m + n) x = steps n (steps m x) := by
  induction m generalizing x with
  | zero => rw [Nat.zero_add]; rfl
  | succ m ih => rw [Nat.succ_add]; exact ih (half x)
theorem steps_succ (n x : Nat) : steps (n + 1) x = half (steps n x) := by rw [steps_add]; rfl

theorem half_even (x : Nat) : half (2 * x) = x := by unfold half; rw [if_neg (by omega)]; omega
theorem xor_comm4 (a b c d : Nat) : (a ^^^ c) ^^^ (b ^^^ d) = (a ^^^ b) ^^^ (c ^^^ d) := by
  rw [Nat.xor_assoc, Nat.xor_assoc]; congr 1
  rw [← Nat.xor_assoc, ← Nat.xor_assoc, Nat.xor_comm c b]
theorem half_xor (x y : Nat) : half (x ^^^ y) = half x ^^^ half y := by
  unfold half
  by_cases hx : x % 2 = 1
  · by_cases hy : y % 2 = 1
    · rw [if_neg (by rw [Nat.xor_mod_two_eq_one]; simp [hx, hy]), if_pos hx, if_pos hy, Nat.xor_div_two, xor_comm4, Nat.xor_self, Nat.xor_zero]
    · rw [if_pos (by rw [Nat.xor_mod_two_eq_one]; simp [hx, hy]), if_pos hx, if_neg hy, Nat.xor_div_two, Nat.xor_assoc, Nat.xor_assoc, Nat.xor_comm (y / 2)]
  · by_cases hy : y % 2 = 1
    · rw [if_pos (by rw [Nat.xor_mod_two_eq_one]; simp [hx, hy]), if_neg hx, if_pos hy, Nat.xor_div_two, Nat.xor_assoc]
    · rw [if_neg (by rw [Nat.xor_mod_two_eq_one]; simp [hx, hy]), if_neg hx, if_neg hy, Nat.xor_div_two]
theorem steps_xor (n x y : Nat) : steps n (x ^^^ y) = steps n x ^^^ steps n y := by
  induction n generalizing x y with
  | zero => rfl
  | succ n ih => rw [steps, half_xor, ih]; rfl
theorem steps_shift (n x : Nat) : steps n (2 ^ n * x) = x := by
  induction n with
  | zero => simp [steps]
  | succ n ih => rw [steps, Nat.pow_succ, Nat.mul_comm (2 ^ n) 2, Nat.mul_assoc, half_even]; exact ih
theorem half_lt {x : Nat} (h : x < 4294967296) : half x < 4294967296 := by
  unfold half
  split
  · exact Nat.xor_lt_two_pow (n := 32) (by omega) (by omega)
  · omega
theorem steps_lt (n : Nat) {x : Nat} (h : x < 4294967296) : steps n x < 4294967296 := by
  induction n generalizing x with
  | zero => exact h
  | succ n ih => exact ih (half_lt h)
theorem half_zero {x : Nat} (h : x < 4294967296) (hz : half x = 0) : x = 0 := by
  unfold half at hz
  split at hz
  · exfalso
    have hb := congrArg (fun y => Nat.testBit y 31) hz
    have h1 : (x / 2).testBit 31 = false := Nat.testBit_lt_two_pow (by omega)
    have h2 : (2197175160 : Nat).testBit 31 = true := by decide
    simp only [Nat.testBit_xor, h1, h2, Nat.zero_testBit] at hb
    simp at hb
  · omega
theorem steps_zero (n : Nat) {x : Nat} (h : x < 4294967296) (hz : steps n x = 0) : x = 0 := by
  induction n generalizing x with
  | zero => exact hz
  | succ n ih => exact half_zero h (ih (half_lt h) hz)
theorem steps_of_zero (n : Nat) : steps n 0 = 0 := by
  induction n with
  | zero => rfl
  | succ n ih => exact ih

/-- A string as a number, the first byte the least significant one. -/
def num : List UInt8 → Nat
  | [] => 0
  | b :: l => b.toNat + 256 * num l
theorem num_lt (l : List UInt8) : num l < 2 ^ (8 * l.length) := by
  induction l with
  | nil => simp [num]
  | cons b l ih =>
    have := b.toNat_lt
    rw [List.length_cons, Nat.mul_add, Nat.pow_add, num]
    have e : (2 : Nat) ^ (8 * 1) = 256 := rfl
    rw [e]; omega
theorem num_append (l m : List UInt8) : num (l ++ m) = num l + 2 ^ (8 * l.length) * num m := by
  induction l with
  | nil => simp [num]
  | cons b l ih =>
    rw [List.cons_append, num, ih, num, List.length_cons, Nat.mul_add 8, Nat.pow_add]
    have e : (2 : Nat) ^ (8 * 1) = 256 := rfl
    rw [e, Nat.mul_add, Nat.mul_comm (2 ^ (8 * l.length)) 256, Nat.mul_assoc]; omega
theorem num_inj : ∀ {l m : List UInt8}, l.length = m.length → num l = num m → l = m := by
  intro l
  induction l with
  | nil => intro m h _; cases m with
    | nil => rfl
    | cons => simp at h
  | cons b l ih =>
    intro m h hn
    cases m with
    | nil => simp at h
    | cons c m =>
      have hb := b.toNat_lt
      have hc := c.toNat_lt
      rw [num, num] at hn
      have h1 : b.toNat = c.toNat := by omega
      have h2 : num l = num m := by omega
      rw [ih (by simpa using h) h2, UInt8.toNat_inj.1 h1]

/-- A number below 2^i beside a multiple of 2^i. -/
theorem add_xor {b i : Nat} (a : Nat) (h : b < 2 ^ i) : b + 2 ^ i * a = b ^^^ 2 ^ i * a := by
  apply Nat.eq_of_testBit_eq
  intro j
  rw [Nat.add_comm, Nat.testBit_two_pow_mul_add a h, Nat.testBit_xor, Nat.testBit_two_pow_mul]
  by_cases hj : j < i
  · have hd : decide (j ≥ i) = false := by rw [decide_eq_false_iff_not]; omega
    rw [if_pos hj, hd]; simp
  · rw [if_neg hj]
    have : b.testBit j = false := Nat.testBit_lt_two_pow (Nat.lt_of_lt_of_le h (Nat.pow_le_pow_right (by omega) (by omega)))
    have hd : decide (j ≥ i) = true := by rw [decide_eq_true_iff]; omega
    rw [this, hd]; simp

/-- The register behind a string. -/
def reg (l : List UInt8) (x : Nat) : Nat := l.foldl (fun x b => steps 8 (x ^^^ b.toNat)) x
theorem reg_nil (x : Nat) : reg [] x = x := rfl
theorem reg_cons (b : UInt8) (l : List UInt8) (x : Nat) : reg (b :: l) x = reg l (steps 8 (x ^^^ b.toNat)) := rfl
theorem reg_append (l m : List UInt8) (x : Nat) : reg (l ++ m) x = reg m (reg l x) := List.foldl_append
/-- A whole string at once. -/
theorem reg_num (l : List UInt8) (x : Nat) : reg l x = steps (8 * l.length) (x ^^^ num l) := by
  induction l generalizing x with
  | nil => rw [reg_nil, num, Nat.xor_zero]; rfl
  | cons b l ih =>
    have hb := b.toNat_lt
    have e1 : num (b :: l) = b.toNat ^^^ 2 ^ 8 * num l := add_xor (i := 8) (num l) (by omega)
    have e2 : steps 8 (x ^^^ num (b :: l)) = steps 8 (x ^^^ b.toNat) ^^^ num l := by
      rw [e1, ← Nat.xor_assoc, steps_xor, steps_shift]
    rw [reg_cons, ih, List.length_cons, show 8 * (l.length + 1) = 8 + 8 * l.length by omega, steps_add, e2]
theorem reg_lt (l : List UInt8) {x : Nat} (h : x < 4294967296) : reg l x < 4294967296 := by
  induction l generalizing x with
  | nil => exact h
  | cons b l ih =>
    have hb := b.toNat_lt
    exact ih (steps_lt 8 (Nat.xor_lt_two_pow (n := 32) (by omega) (by omega)))

def crc (l : List UInt8) : Nat := reg l 4294967295 ^^^ 4294967295
theorem crc_lt (l : List UInt8) : crc l < 4294967296 := Nat.xor_lt_two_pow (n := 32) (reg_lt l (by omega)) (by omega)

theorem xor_cancel (a b : Nat) : a ^^^ (a ^^^ b) = b := by rw [← Nat.xor_assoc, Nat.xor_self, Nat.zero_xor]

/-- The Crc of a string and the four bytes of its Crc. -/
theorem crc_residue (l m : List UInt8) (hm : m.length = 4) (h : num m = crc l) : crc (l ++ m) = 1214729159 := by
  unfold crc at h ⊢
  rw [reg_append, reg_num m, h, hm, xor_cancel]
  decide +kernel

/-- Three strings. -/
theorem crc_xors (a b c x : List UInt8) (hb : b.length = a.length) (hc : c.length = a.length) (hx : x.length = a.length) (h : num x = num a ^^^ num b ^^^ num c) : crc x = crc a ^^^ crc b ^^^ crc c := by
  unfold crc
  rw [reg_num x, reg_num a, reg_num b, reg_num c, hx, hb, hc, h]
  generalize 8 * a.length = n
  generalize num a = p
  generalize num b = q
  generalize num c = r
  have e : (4294967295 : Nat) ^^^ (p ^^^ q ^^^ r) = (4294967295 ^^^ p) ^^^ (4294967295 ^^^ q) ^^^ (4294967295 ^^^ r) := by
    generalize (4294967295 : Nat) = F
    have h1 : (F ^^^ p) ^^^ (F ^^^ q) = p ^^^ q := by rw [xor_comm4, Nat.xor_self, Nat.zero_xor]
    rw [h1, ← Nat.xor_assoc, Nat.xor_comm F]
    rw [Nat.xor_assoc, Nat.xor_assoc]
  rw [e, steps_xor, steps_xor]
  generalize steps n (4294967295 ^^^ p) = u
  generalize steps n (4294967295 ^^^ q) = v
  generalize steps n (4294967295 ^^^ r) = w
  generalize (4294967295 : Nat) = F
  have h1 : (u ^^^ F) ^^^ (v ^^^ F) = u ^^^ v := by rw [xor_comm4, Nat.xor_self, Nat.xor_zero]
  rw [h1, Nat.xor_assoc (u ^^^ v)]

/-- Two strings that differ within 32 consecutive bits. -/
theorem crc_detects (s t : List UInt8) (bit P : Nat) (hl : t.length = s.length) (hb : bit ≤ 8 * s.length) (hP : P < 4294967296) (h : num t = num s ^^^ 2 ^ bit * P) : (s = t ↔ P = 0) ∧ (crc s = crc t ↔ P = 0) := by
  have hpos : 0 < 2 ^ bit := Nat.pow_pos (by omega)
  have key : crc s ^^^ crc t = steps (8 * s.length - bit) P := by
    unfold crc
    rw [reg_num, reg_num, hl, xor_comm4, Nat.xor_self, Nat.xor_zero, ← steps_xor, xor_comm4, Nat.xor_self, Nat.zero_xor, h, xor_cancel]
    conv => lhs; rw [show 8 * s.length = bit + (8 * s.length - bit) by omega, steps_add, steps_shift]
  constructor
  · constructor
    · intro e
      rw [← e] at h
      have h2 : 2 ^ bit * P = 0 := by
        have := congrArg (num s ^^^ ·) h
        simp only [Nat.xor_self, xor_cancel] at this
        exact this.symm
      rcases Nat.mul_eq_zero.1 h2 with h3 | h3
      · omega
      · exact h3
    · rintro rfl
      rw [Nat.mul_zero, Nat.xor_zero] at h
      exact num_inj hl.symm h.symm
  · constructor
    · intro e
      rw [e, Nat.xor_self] at key
      exact steps_zero _ hP key.symm
    · rintro rfl
      rw [steps_of_zero] at key
      have := congrArg (crc s ^^^ ·) key
      simp only [xor_cancel, Nat.xor_zero] at this
      exact this.symm
theorem crc_nil : crc [] = 0 := by decide +kernel
theorem crc_123 : crc [49, 50, 51, 52, 53, 54, 55, 56, 57] = 3808858755 := by decide +kernel
end Go.Proofs.YtcekmedfphmpcaaDoor
