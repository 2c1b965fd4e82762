/-
  Contract of wire.firstNumber: the number whose bytes stand at the beginning, and how many bytes it has.
-/
import Derived.Test.YtebepofbngdccaaNum
namespace Go.Proofs.Ytebepofbngdccaa
set_option linter.unusedVariables false
set_option linter.unusedSimpArgs false
open Go.RowKit

theorem andNot_128 (x : Nat) (h : x < 256) : bits .andNot .u8 (x : Int) 128 = ((x % 128 : Nat) : Int) := by
  have : ∀ x : Nat, x < 256 → bits .andNot .u8 (x : Int) 128 = ((x % 128 : Nat) : Int) := by decide +kernel
  exact this x h

theorem pow7 (k : Nat) : (2 : Nat) ^ (7 * k) = 128 ^ k := by rw [Nat.pow_mul]

theorem u64_nat (x : Nat) : IntKind.u64.wrap (x : Int) = ((x % 18446744073709551616 : Nat) : Int) := by rw [IntKind.wrap_u64]; rfl

/-- No bit is lost: the group times its weight is below 2^64. -/
theorem keep_lt (g k : Nat) (h : (IntKind.u64.wrap ((g : Int) * 2 ^ min (7 * k) 64) / 2 ^ min (7 * k) 64 != (g : Int)) = false) :
    g * 128 ^ k < 18446744073709551616 ∧ IntKind.u64.wrap ((g : Int) * 2 ^ min (7 * k) 64) = ((g * 128 ^ k : Nat) : Int) := by
  have e1 : (g : Int) * 2 ^ min (7 * k) 64 = ((g * 2 ^ min (7 * k) 64 : Nat) : Int) := by norm_cast
  have e2 : ((2 : Int) ^ min (7 * k) 64) = ((2 ^ min (7 * k) 64 : Nat) : Int) := by norm_cast
  have h' : IntKind.u64.wrap ((g : Int) * 2 ^ min (7 * k) 64) / 2 ^ min (7 * k) 64 = (g : Int) := by simpa using h
  rw [e1, u64_nat, e2] at h'
  rw [e1, u64_nat]
  have h2 : g * 2 ^ min (7 * k) 64 % 18446744073709551616 / 2 ^ min (7 * k) 64 = g := by exact_mod_cast h'
  by_cases hk : 7 * k < 64
  · rw [Nat.min_eq_left (by omega), pow7] at h2
    rw [Nat.min_eq_left (by omega), pow7]
    have hp : 0 < 128 ^ k := Nat.pow_pos (by omega)
    have h3 := Nat.div_mul_le_self (g * 128 ^ k % 18446744073709551616) (128 ^ k)
    rw [h2] at h3
    have h4 := Nat.mod_lt (g * 128 ^ k) (y := 18446744073709551616) (by omega)
    have h5 : g * 128 ^ k < 18446744073709551616 := by omega
    exact ⟨h5, by rw [Nat.mod_eq_of_lt h5]⟩
  · rw [Nat.min_eq_right (by omega)] at h2
    have : g = 0 := by omega
    subst this
    simp

theorem keep_or (a g k : Nat) (ha : a < 128 ^ k) (h64 : a < 18446744073709551616) (h : (IntKind.u64.wrap ((g : Int) * 2 ^ min (7 * k) 64) / 2 ^ min (7 * k) 64 != (g : Int)) = false) :
    bits BinOp.or IntKind.u64 (a : Int) (IntKind.u64.wrap ((g : Int) * 2 ^ min (7 * k) 64)) = ((a + 128 ^ k * g : Nat) : Int) ∧ a + 128 ^ k * g < 18446744073709551616 := by
  obtain ⟨h1, h2⟩ := keep_lt g k h
  rw [h2, bits_or_u64_nat _ _ h64 h1]
  have h3 : a ||| g * 128 ^ k = a + 128 ^ k * g := by
    rw [Nat.or_comm, Nat.mul_comm g, ← pow7, Nat.add_comm, Nat.two_pow_add_eq_or_of_lt (by rw [pow7]; exact ha)]
  have h4 : a ||| g * 128 ^ k < 2 ^ 64 := Nat.or_lt_two_pow (by omega) (by omega)
  rw [h3] at h4 ⊢
  exact ⟨rfl, by omega⟩

/-- Where the reading of l stands before byte k. -/
structure At (l : List UInt8) (k a : Nat) : Prop where
  le : k ≤ l.length
  lt : a < 128 ^ k
  lt64 : a < 18446744073709551616
  hi : ∀ j (h : j < l.length), j < k → 128 ≤ l[j].toNat
  join : ∀ m, (0 < m ∨ k = 0) → enc (a + 128 ^ k * m) = l.take k ++ enc m

theorem At.start (l : List UInt8) : At l 0 0 := ⟨by omega, by simp, by omega, fun j h hj => by omega, fun m _ => by simp⟩

theorem At.next {l : List UInt8} {k a g : Nat} (h : At l k a) (hk : k < l.length) (hg : l[k].toNat % 128 = g) (hb : 128 ≤ l[k].toNat) (h64 : a + 128 ^ k * g < 18446744073709551616) : At l (k + 1) (a + 128 ^ k * g) := by
  have hg' : g < 128 := by omega
  have hu := l[k].toNat_lt
  refine ⟨by omega, ?_, h64, fun j hj hjk => ?_, fun m hm => ?_⟩
  · have := h.lt
    have h2 : 128 ^ k * (g + 1) ≤ 128 ^ k * 128 := Nat.mul_le_mul_left _ (by omega)
    rw [Nat.mul_add] at h2
    rw [Nat.pow_succ]; omega
  · by_cases e : j = k
    · subst e; exact hb
    · exact h.hi j hj (by omega)
  · have hm' : 0 < m := by rcases hm with h | h; exact h; omega
    have e1 : a + 128 ^ k * g + 128 ^ (k + 1) * m = a + 128 ^ k * (g + 128 * m) := by rw [Nat.pow_succ, Nat.mul_add, Nat.mul_assoc]; omega
    rw [e1, h.join _ (.inl (by omega)), enc_hi (by omega), List.take_succ_eq_append_getElem hk, List.append_assoc]
    have e2 : (g + 128 * m) % 128 + 128 = l[k].toNat := by omega
    have e3 : (g + 128 * m) / 128 = m := by omega
    rw [e2, e3]; simp

theorem At.done {l : List UInt8} {k a g : Nat} (h : At l k a) (hk : k < l.length) (hg : l[k].toNat % 128 = g) (hb : l[k].toNat < 128) (h0 : 0 < g ∨ k = 0) (h64 : a + 128 ^ k * g < 18446744073709551616) :
    first l = some (a + 128 ^ k * g, l.drop (k + 1)) ∧ (enc (a + 128 ^ k * g)).length = k + 1 := by
  have e := h.join g h0
  have e2 : g = l[k].toNat := by omega
  rw [enc_lo (by omega : g < 128)] at e
  have e3 : [UInt8.ofNat g] = [l[k]] := by rw [e2]; simp
  rw [e3, ← List.take_succ_eq_append_getElem hk] at e
  constructor
  · have : l = enc (a + 128 ^ k * g) ++ l.drop (k + 1) := by rw [e, List.take_append_drop]
    conv => lhs; rw [this]
    exact first_enc h64 _
  · rw [e, List.length_take]; omega

/-- Where the reading stands within the bytes of a number. -/
theorem At.within {l r : List UInt8} {k a m : Nat} (h : At l k a) (hl : l = enc m ++ r) : k < (enc m).length := by
  rcases Nat.lt_or_ge k (enc m).length with hk | hk
  · exact hk
  · exfalso
    have hp := enc_pos m
    obtain ⟨_, h2⟩ := enc_at ((enc m).length - 1) m
    obtain ⟨h3, h4, _⟩ := h2 (by omega)
    have hj : (enc m).length - 1 < l.length := by rw [hl, List.length_append]; omega
    have h5 := h.hi ((enc m).length - 1) hj (by omega)
    have h6 : l[(enc m).length - 1]? = some (UInt8.ofNat (m / 128 ^ ((enc m).length - 1))) := by rw [hl, List.getElem?_append_left (by omega)]; exact h3
    rw [List.getElem?_eq_getElem hj] at h6
    injection h6 with h6
    rw [h6, u8_of (by omega)] at h5
    omega
theorem At.byte {l r : List UInt8} {k a m : Nat} (h : At l k a) (hl : l = enc m ++ r) (hk : k < l.length) :
    l[k].toNat % 128 = m / 128 ^ k % 128 ∧ (l[k].toNat < 128 → 0 < k → 0 < l[k].toNat) := by
  have hw := h.within hl
  have e : l[k]? = (enc m)[k]? := by rw [hl, List.getElem?_append_left hw]
  rw [List.getElem?_eq_getElem hk] at e
  obtain ⟨h1, h2⟩ := enc_at k m
  by_cases hc : k + 1 = (enc m).length
  · obtain ⟨h3, h4, h5⟩ := h2 hc
    rw [h3] at e
    injection e with e
    rw [e, u8_of (by omega)]
    exact ⟨rfl, fun _ => h5⟩
  · obtain ⟨h3, _⟩ := h1 (by omega)
    rw [h3] at e
    injection e with e
    rw [e, u8_of (by omega)]
    exact ⟨by omega, fun _ _ => by omega⟩

theorem At.none_end {l : List UInt8} {a : Nat} (h : At l l.length a) : first l = none := by
  rcases hf : first l with _ | ⟨m, r⟩
  · rfl
  · obtain ⟨hl, _⟩ := first_some hf
    have := h.within hl
    have h2 := congrArg List.length hl
    rw [List.length_append] at h2; omega
theorem At.none_zero {l : List UInt8} {k a : Nat} (h : At l k a) (hk : k < l.length) (hb : l[k].toNat < 128) (h0 : l[k].toNat = 0) (hk0 : 0 < k) : first l = none := by
  rcases hf : first l with _ | ⟨m, r⟩
  · rfl
  · obtain ⟨hl, _⟩ := first_some hf
    have := (h.byte hl hk).2 hb hk0
    omega
theorem At.none_lost {l : List UInt8} {k a g : Nat} (h : At l k a) (hk : k < l.length) (hg : l[k].toNat % 128 = g)
    (hn : (IntKind.u64.wrap ((g : Int) * 2 ^ min (7 * k) 64) / 2 ^ min (7 * k) 64 != (g : Int)) = true) : first l = none := by
  rcases hf : first l with _ | ⟨m, r⟩
  · rfl
  · exfalso
    obtain ⟨hl, hm⟩ := first_some hf
    have hgm := (h.byte hl hk).1
    rw [hg] at hgm
    have h1 : g * 128 ^ k ≤ m := by
      have := Nat.div_mul_le_self m (128 ^ k)
      have h2 : g ≤ m / 128 ^ k := by rw [hgm]; exact Nat.mod_le _ _
      exact Nat.le_trans (Nat.mul_le_mul_right _ h2) this
    have hp : 0 < 128 ^ k := Nat.pow_pos (by omega)
    have e1 : (g : Int) * 2 ^ min (7 * k) 64 = ((g * 2 ^ min (7 * k) 64 : Nat) : Int) := by norm_cast
    have e2 : ((2 : Int) ^ min (7 * k) 64) = ((2 ^ min (7 * k) 64 : Nat) : Int) := by norm_cast
    rw [e1, u64_nat, e2] at hn
    have hn' : ¬ (((g * 2 ^ min (7 * k) 64 % 18446744073709551616 : Nat) : Int) / ((2 ^ min (7 * k) 64 : Nat) : Int) = (g : Int)) := by simpa using hn
    apply hn'
    norm_cast
    by_cases h7 : 7 * k < 64
    · rw [Nat.min_eq_left (by omega), pow7, Nat.mod_eq_of_lt (by omega), Nat.mul_div_cancel _ hp]
    · have h8 : (128 : Nat) ^ 10 ≤ 128 ^ k := Nat.pow_le_pow_right (by omega) (by omega)
      have : g = 0 := by
        rcases Nat.eq_zero_or_pos g with h0 | h0
        · exact h0
        · have := Nat.mul_le_mul h0 h8
          omega
      subst this
      simp

def FirstPost (l : List UInt8) (w : World) (e : Ending) (w' : World) : Prop :=
  w = w' ∧ ((∃ m r, first l = some (m, r) ∧ e = .returned (.tuple #[.int .u64 m, .int .i64 (enc m).length])) ∨ (first l = none ∧ e = .returned (.tuple #[.int .u64 0, .int .i64 0])))

theorem first_ret {l r : List UInt8} {m n : Nat} {x : Int} {w : World} (h : first l = some (m, r)) (hl : (enc m).length = n + 1) (hx : x = (m : Int)) : FirstPost l w (.returned (.tuple #[.int .u64 x, .int .i64 (n + 1)])) w :=
  ⟨rfl, .inl ⟨m, r, h, by rw [hx, hl]; rfl⟩⟩
theorem first_ret0 {l : List UInt8} {w : World} (h : first l = none) : FirstPost l w (.returned (.tuple #[.int .u64 0, .int .i64 0])) w := ⟨rfl, .inr ⟨h, rfl⟩⟩

set_option maxRecDepth 100000 in
theorem firstNumber_any (l : List UInt8) (w : World) (hs : l.length ≤ 100000000) :
    Calls Try.prog 54 #[.string (bs l)] w (FirstPost l w) := by
  obtain ⟨s, hS⟩ : ∃ s, bs l = s := ⟨_, rfl⟩
  have hsz : s.size = l.length := by rw [← hS, bs_size]
  have hs' : s.size ≤ 100000000 := by omega
  have hget : ∀ k (h : k < s.size) (h' : k < l.length), s[k] = l[k] := by subst hS; exact fun k h _ => bs_get l k h
  rw [hS]
  have HZ := Lib.hid hsz; clear hsz
  have HG := Lib.hid hget; clear hget
  have HS := Lib.hid hS; clear hS
  go_enter Try.func54, Try.ntmps54
  go_wp2_with fail
  go_loop [2, 9] (fun m i => ∃ (k : Nat) (a : Nat), k ≤ s.size ∧ i = .int .i64 k ∧ m = .int .u64 a ∧ At l k a) (fun _ i => s.size - (intOf i).toNat)
  case atStart => exact ⟨0, 0, by omega, rfl, rfl, At.start l⟩
  case round =>
    obtain ⟨k, a, hk, rfl, rfl, hat⟩ := hrel
    by_cases hlt : k < s.size
    · have hkl : k < l.length := by rw [← HZ.out]; exact hlt
      have hn := andNot_128 s[k].toNat (by have := s[k].toNat_lt; omega)
      have hn2 : ((s[k].toNat % 128 : Nat) : Int) < 128 := by omega
      obtain ⟨g, hg⟩ : ∃ g, s[k].toNat % 128 = g := ⟨_, rfl⟩
      rw [hg] at hn hn2
      rw [HG.out k hlt hkl] at hg
      have HGB := HG.out k hlt hkl
      have HB := Lib.hid HGB; clear HGB
      have HGg := Lib.hid hg; clear hg
      have q2 : (0 : Int) ≤ 7 * k := by omega
      have q4 : (7 * (k : Int)).toNat = 7 * k := by omega
      go_wp2_with fail
      · go_ret2
        exact first_ret0 (hat.none_lost hkl HGg.out (by assumption))
      · go_ret2
        have h1 : ((s[k].toNat : Nat) : Int) < 128 := by assumption
        have h2 : g = 0 := by assumption
        have h3 : 0 < k := by assumption
        refine first_ret0 (hat.none_zero hkl ?_ ?_ h3)
        · rw [← HB.out]; omega
        · have := HGg.out; rw [← HB.out] at this ⊢; omega
      · go_ret2
        have h0 : (IntKind.u64.wrap ((g : Int) * 2 ^ min (7 * k) 64) / 2 ^ min (7 * k) 64 != (g : Int)) = false := by assumption
        have h1 : ((s[k].toNat : Nat) : Int) < 128 := by assumption
        have h2 : g = 0 := by assumption
        have h3 : ¬ 0 < k := by assumption
        obtain ⟨ko, k64⟩ := keep_or a g k hat.lt hat.lt64 h0
        obtain ⟨d1, d2⟩ := hat.done hkl HGg.out (by rw [← HB.out]; omega) (.inr (by omega)) k64
        exact first_ret d1 d2 (by rw [← ko, h2]; simp)
      · go_ret2
        have h0 : (IntKind.u64.wrap ((g : Int) * 2 ^ min (7 * k) 64) / 2 ^ min (7 * k) 64 != (g : Int)) = false := by assumption
        have h1 : ((s[k].toNat : Nat) : Int) < 128 := by assumption
        have h2 : ¬ g = 0 := by assumption
        obtain ⟨ko, k64⟩ := keep_or a g k hat.lt hat.lt64 h0
        obtain ⟨d1, d2⟩ := hat.done hkl HGg.out (by rw [← HB.out]; omega) (.inl (by omega)) k64
        exact first_ret d1 d2 ko
      · have h0 : (IntKind.u64.wrap ((g : Int) * 2 ^ min (7 * k) 64) / 2 ^ min (7 * k) 64 != (g : Int)) = false := by assumption
        have h1 : 128 ≤ ((s[k].toNat : Nat) : Int) := by assumption
        go_round
        case rel =>
          obtain ⟨ko, k64⟩ := keep_or a g k hat.lt hat.lt64 h0
          exact ⟨k + 1, a + 128 ^ k * g, by omega, by go_num, by rw [ko], hat.next hkl HGg.out (by rw [← HB.out]; omega) k64⟩
        case measure => simp [intOf]; omega
    · have HE : At l l.length a := by
        have : k = l.length := by have := HZ.out; omega
        rw [← this]; exact hat
      go_wp2_with fail
      go_ret2
      exact first_ret0 HE.none_end
end Go.Proofs.Ytebepofbngdccaa
