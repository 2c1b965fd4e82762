/-
  Contracts of the reference's constant, turn, left and lane.
-/
import Derived.Test.YtcekmedfphmpcaaDoorBase
import Derived.Test.YtcekmedfphmpcaaDoorKec
namespace Go.Proofs.YtcekmedfphmpcaaDoor
set_option linter.unusedVariables false
set_option linter.unusedSimpArgs false
open Go.RowKit

def uv (l : List Nat) : List Value := l.map fun n => .int .u64 (n : Nat)
theorem uv_length (l : List Nat) : (uv l).length = l.length := by simp [uv]
theorem uv_at (l : List Nat) (k : Nat) (h : k < l.length) : (uv l)[k]? = some (.int .u64 (lat l k : Nat)) := by
  simp [uv, lat, h, List.getD_eq_getElem?_getD]
theorem uv_get (l : List Nat) (k : Nat) (h : k < (uv l).length) : (uv l)[k] = .int .u64 (lat l k : Nat) := by
  have := uv_at l k (by rw [uv_length] at h; exact h)
  rw [List.getElem?_eq_getElem h] at this
  exact Option.some.inj this

set_option maxRecDepth 100000 in
theorem constantR (k : Nat) (w : World) (h : k < 24) :
    Calls Tryd.prog 28 #[.int .i64 k] w fun e w' => e = .returned (.int .u64 (lat consts k : Nat)) ∧ Below w.heap.size w w' := by
  go_enter Tryd.func28, Tryd.ntmps28
  go_wp2_with fail
  go_ret
  exact ⟨congrArg Ending.returned (uv_get consts k (by rw [uv_length]; exact h)), (Below.refl _ _).alloc (Nat.le_refl _) _⟩
set_option maxRecDepth 100000 in
theorem turnR (k : Nat) (w : World) (h : k < 25) :
    Calls Tryd.prog 34 #[.int .i64 k] w fun e w' => e = .returned (.int .u64 (lat turns k : Nat)) ∧ Below w.heap.size w w' := by
  go_enter Tryd.func34, Tryd.ntmps34
  go_wp2_with fail
  go_ret
  exact ⟨congrArg Ending.returned (uv_get turns k (by rw [uv_length]; exact h)), (Below.refl _ _).alloc (Nat.le_refl _) _⟩

theorem u64_nat (x : Nat) : IntKind.u64.wrap (x : Int) = ((x % 18446744073709551616 : Nat) : Int) := by rw [IntKind.wrap_u64]; rfl
theorem rol_lt {x n : Nat} (hx : x < 18446744073709551616) (hn : n < 64) : rol x n < 18446744073709551616 := by
  unfold rol
  split
  · exact hx
  · exact Nat.or_lt_two_pow (n := 64) (Nat.mod_lt _ (by omega)) (Nat.lt_of_le_of_lt (Nat.div_le_self _ _) hx)
theorem rol_u64 (x n : Nat) (hx : x < 18446744073709551616) (hn : n < 64) (h0 : ¬ n = 0) :
    bits .or .u64 (IntKind.u64.wrap ((x : Int) * 2 ^ n)) ((x : Int) / 2 ^ (64 - n)) = ((rol x n : Nat) : Int) := by
  have e1 : IntKind.u64.wrap ((x : Int) * 2 ^ n) = ((x * 2 ^ n % 18446744073709551616 : Nat) : Int) := by
    have : (x : Int) * 2 ^ n = ((x * 2 ^ n : Nat) : Int) := by norm_cast
    rw [this, u64_nat]
  have e2 : (x : Int) / 2 ^ (64 - n) = ((x / 2 ^ (64 - n) : Nat) : Int) := by norm_cast
  rw [e1, e2, bits_or_u64_nat _ _ (Nat.mod_lt _ (by omega)) (Nat.lt_of_le_of_lt (Nat.div_le_self _ _) hx)]
  unfold rol; rw [if_neg h0]

set_option maxRecDepth 100000 in
theorem leftR (x n : Nat) (w : World) (hx : x < 18446744073709551616) (hn : n < 64) :
    Calls Tryd.prog 33 #[.int .u64 x, .int .u64 n] w fun e w' => e = .returned (.int .u64 (rol x n : Nat)) ∧ w = w' := by
  by_cases h0 : n = 0
  · have HR : Hid (rol x n = x) := by show _ = _; unfold rol; rw [if_pos h0]
    have h0' : (((n : Nat) : Int) == 0) = true := by rw [h0]; rfl
    clear h0
    go_enter Tryd.func33, Tryd.ntmps33
    go_wp2_with fail
    go_ret
    exact ⟨by rw [HR.out]; rfl, rfl⟩
  · have HR := Lib.hid (rol_u64 x n hx hn h0)
    have h0' : (((n : Nat) : Int) == 0) = false := by simp; omega
    clear h0
    have q1 : (0 : Int) ≤ n := by omega
    have q2 : ((n : Int)).toNat = n := by omega
    have q3 : min n 64 = n := by omega
    have q4 : (64 - (n : Int)).toNat = 64 - n := by omega
    have q5 : min (64 - n) 64 = 64 - n := by omega
    have q6 : (0 : Int) ≤ 64 - n := by omega
    go_enter Tryd.func33, Tryd.ntmps33
    go_wp2_with fail
    go_ret
    refine ⟨?_, rfl⟩
    rw [← HR.out]
    rfl
theorem bits_and_u64_nat (a b : Nat) (ha : a < 18446744073709551616) (hb : b < 18446744073709551616) : bits .and .u64 (a : Int) (b : Int) = ((a &&& b : Nat) : Int) := by
  have hx : a &&& b < 2 ^ 64 := Nat.and_lt_two_pow _ (by omega)
  have h1 : (BitVec.ofInt 64 (a : Int)).toNat = a := by
    rw [BitVec.ofInt_natCast, BitVec.toNat_ofNat]; exact Nat.mod_eq_of_lt (by omega)
  have h2 : (BitVec.ofInt 64 (b : Int)).toNat = b := by
    rw [BitVec.ofInt_natCast, BitVec.toNat_ofNat]; exact Nat.mod_eq_of_lt (by omega)
  show IntKind.u64.wrap ((BitVec.ofInt 64 (a : Int) &&& BitVec.ofInt 64 (b : Int)).toNat : Int) = _
  rw [BitVec.toNat_and, h1, h2, IntKind.wrap_u64]
  omega

/-- Eight bytes from at_ on, the least significant one first. -/
theorem le8_step (L : List Nat) (i : Nat) : le8 (L.drop i) = if i < L.length then lat L i + 256 * le8 (L.drop (i + 1)) else 0 := by
  split
  · rename_i h
    have e : lat L i = L[i] := by simp [lat, h, List.getD_eq_getElem?_getD]
    rw [List.drop_eq_getElem_cons h, e]; rfl
  · rw [List.drop_eq_nil_of_le (by omega)]; rfl
theorem laneOf_step (l : List Nat) (at_ i : Nat) : le8 (((l.drop at_).take 8).drop i) = if i < ((l.drop at_).take 8).length then lat ((l.drop at_).take 8) i + 256 * le8 (((l.drop at_).take 8).drop (i + 1)) else 0 := le8_step _ i
theorem lat_take_drop (l : List Nat) (at_ i : Nat) (hi : i < 8) : lat ((l.drop at_).take 8) i = lat l (at_ + i) := by
  simp [lat, List.getD_eq_getElem?_getD, List.getElem?_take, hi, List.getElem?_drop]
theorem le8_lt (l : List Nat) (h : ∀ x ∈ l, x < 256) : le8 l < 256 ^ l.length := by
  induction l with
  | nil => simp [le8]
  | cons b l ih =>
    have h1 := h b (by simp)
    have h2 := ih fun x hx => h x (by simp [hx])
    show b + 256 * le8 l < _
    rw [List.length_cons, Nat.pow_succ]; omega

/-- The bytes of a row. -/
def nl (l : List UInt8) : List Nat := l.map UInt8.toNat
theorem nl_length (l : List UInt8) : (nl l).length = l.length := by simp [nl]
theorem lat_lt (l : List UInt8) (i : Nat) : lat (nl l) i < 256 := by
  unfold lat nl
  rw [List.getD_eq_getElem?_getD, List.getElem?_map]
  cases h : l[i]? with
  | none => simp
  | some b => have := b.toNat_lt; simpa using this
theorem cl_at (l : List UInt8) (k : Nat) (h : k < l.length) : (cl l)[k]? = some (.int .u8 (lat (nl l) k : Nat)) := by
  simp [cl, nl, lat, h, List.getD_eq_getElem?_getD]

set_option maxRecDepth 100000 in
set_option maxHeartbeats 1000000 in
theorem laneR (v : Value) (l : List UInt8) (p : Nat) (w : World) (hr : Row w w.heap.size v (cl l)) (hp : p + 8 ≤ l.length) (hl : l.length ≤ 1000000) :
    Calls Tryd.prog 26 #[v, .int .i64 p] w fun e w' => e = .returned (.int .u64 (laneOf (nl l) p : Nat)) ∧ w = w' := by
  obtain ⟨A, cap, rfl, hA⟩ := hr
  rw [cl_length] at hA
  rw [cl_length]
  obtain ⟨b, off, rfl, hb, hc⟩ := hA (by omega)
  have hcell : ∀ i, i < 8 → w.cell? ⟨b, off + (p + i), none⟩ = some (.int .u8 (lat (nl l) (p + i) : Nat)) := fun i hi => by rw [hc (p + i) (by omega), cl_at l _ (by omega)]
  have HC := Lib.hid hcell; clear hcell hc hA
  have h8 : (((nl l).drop p).take 8).length = 8 := by rw [List.length_take, List.length_drop, nl_length]; omega
  have H8 := Lib.hid h8; clear h8
  have hlt8 : ∀ i, le8 ((((nl l).drop p).take 8).drop i) < 256 ^ (8 - i) := fun i => by
    have h := le8_lt ((((nl l).drop p).take 8).drop i) (fun x hx => by
      have hx2 := List.mem_of_mem_drop (List.mem_of_mem_take (List.mem_of_mem_drop hx))
      obtain ⟨c, _, rfl⟩ := List.mem_map.1 hx2
      exact c.toNat_lt)
    rw [List.length_drop, H8.out] at h
    exact h
  have HL := Lib.hid hlt8; clear hlt8
  go_enter Tryd.func26, Tryd.ntmps26
  go_wp2_with fail
  go_loop [5, 6] (fun n i => ∃ (j m : Nat), j ≤ 8 ∧ i = .int .i64 ((j : Int) - 1) ∧ n = .int .u64 m ∧ m = le8 ((((nl l).drop p).take 8).drop j)) (fun _ i => (intOf i + 1).toNat)
  case atStart => exact ⟨8, 0, by omega, rfl, rfl, by rw [List.drop_eq_nil_of_le (by rw [H8.out]; omega)]; rfl⟩
  case round =>
    obtain ⟨j, m, hj, rfl, rfl, hm⟩ := hrel
    have HM := Lib.hid hm; clear hm
    rcases j with _ | i
    · have HE : Hid (laneOf (nl l) p = m) := by show _ = _; rw [HM.out, List.drop_zero]; rfl
      go_wp2_with fail
      go_ret
      exact ⟨by rw [HE.out]; rfl, rfl⟩
    · rw [show (((i + 1 : Nat) : Int) - 1) = (i : Int) by omega]
      have hi8 : i < 8 := by omega
      have hce := HC.out i hi8
      have hbl : m * 256 < 18446744073709551616 := by
        have h1 := HL.out (i + 1)
        rw [← HM.out] at h1
        have h2 : (256 : Nat) ^ (8 - (i + 1)) ≤ 256 ^ 7 := Nat.pow_le_pow_right (by omega) (by omega)
        omega
      have hlx := lat_lt l (p + i)
      have hor : bits .or .u64 (m * 256 : Int) ((lat (nl l) (p + i) : Nat) : Int) = ((lat (nl l) (p + i) + 256 * m : Nat) : Int) := by
        have := bits_or_u64_nat (m * 256) (lat (nl l) (p + i)) hbl (by omega)
        rw [Nat.mul_comm m 256, ← Nat.two_pow_add_eq_or_of_lt (i := 8) (by omega)] at this
        rw [show ((m : Int) * 256) = ((256 * m : Nat) : Int) by omega, this]; omega
      have HS := Lib.hid (laneOf_step (nl l) p i)
      obtain ⟨x, hx⟩ : ∃ x, lat (nl l) (p + i) = x := ⟨_, rfl⟩
      rw [hx] at hce hor hlx
      have HX := Lib.hid hx; clear hx
      have hbl' : (m : Int) * 256 < 18446744073709551616 := by omega
      have q1 : ((p : Int) + i).toNat = p + i := by omega
      clear hbl
      go_wp2_with fail
      go_round
      case rel => exact ⟨i, x + 256 * m, by omega, rfl, rfl, by rw [HS.out, H8.out, if_pos hi8, lat_take_drop _ _ _ hi8, HX.out, HM.out]⟩
      case measure => simp [intOf]
end Go.Proofs.YtcekmedfphmpcaaDoor
