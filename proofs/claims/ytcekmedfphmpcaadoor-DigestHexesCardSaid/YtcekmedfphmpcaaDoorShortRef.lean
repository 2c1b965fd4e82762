/-
  Contract of the reference's Short.
-/
import Derived.Test.YtcekmedfphmpcaaDoorSumRef
namespace Go.Proofs.YtcekmedfphmpcaaDoor
set_option linter.unusedVariables false
set_option linter.unusedSimpArgs false
open Go.RowKit

/-- The number of the first k bytes, the most significant one first. -/
def be (L : List Nat) : Nat → Nat
  | 0 => 0
  | k + 1 => be L k * 256 + lat L k
def shortN (L : List Nat) : Nat := be L 7 * 16 + lat L 7 / 16
theorem be_lt (L : List Nat) (h : ∀ x ∈ L, x < 256) (k : Nat) : be L k < 256 ^ k := by
  induction k with
  | zero => simp [be]
  | succ k ih =>
    have hl : lat L k < 256 := by
      unfold lat
      rw [List.getD_eq_getElem?_getD]
      cases hi : L[k]? with
      | none => simp
      | some x => exact h x (List.mem_of_getElem? hi)
    rw [be, Nat.pow_succ]; omega
/-- The digest as a string. -/
def sumB (l : List UInt8) : List UInt8 := (sumN (nl l)).map UInt8.ofNat
theorem sumB_length (l : List UInt8) : (sumB l).length = 32 := by unfold sumB; rw [List.length_map, sumN_length]
theorem sumB_at (l : List UInt8) (i : Nat) (h : i < (sumB l).length) : (sumB l)[i].toNat = lat (sumN (nl l)) i := by
  have h2 : i < (sumN (nl l)).length := by rw [sumN_length]; rw [sumB_length] at h; exact h
  have hb := sumN_byte (nl l) _ (List.getElem_mem h2)
  have e : lat (sumN (nl l)) i = (sumN (nl l))[i] := by simp [lat, List.getD_eq_getElem?_getD, h2]
  have e2 : (sumB l)[i] = UInt8.ofNat ((sumN (nl l))[i]) := List.getElem_map ..
  rw [e2, u8_of hb, e]

set_option maxRecDepth 100000 in
set_option maxHeartbeats 1000000 in
theorem shortR (l : List UInt8) (w : World) (hl : l.length ≤ 100000) :
    Calls Tryd.prog 15 #[.string (bs l)] w fun e w' => e = .returned (.int .i64 (shortN (sumN (nl l)) : Nat)) ∧ Below w.heap.size w w' := by
  obtain ⟨d, hd⟩ : ∃ d, bs (sumB l) = d := ⟨_, rfl⟩
  have hsz : d.size = 32 := by rw [← hd, bs_size, sumB_length]
  have hget : ∀ i (h : i < d.size), d[i].toNat = lat (sumN (nl l)) i := by
    subst hd
    intro i h
    rw [bs_get, sumB_at]
  have hbe := be_lt (sumN (nl l)) (sumN_byte (nl l))
  have HBE := Lib.hid hbe; clear hbe
  have HG := Lib.hid hget; clear hget
  have HD := Lib.hid hd; clear hd
  have HSUM : Hid (∀ w, Calls Tryd.prog 13 #[.string (bs l)] w fun e w' => e = .returned (.string d) ∧ Below w.heap.size w w') := fun w => by
    rw [← HD.out]; exact sumR l w hl
  go_enter Tryd.func15, Tryd.ntmps15
  go_wp2_with fail
  refine (HSUM.out _).mono ?_; rintro e w2 ⟨rfl, hB2⟩
  go_wp2_with fail
  go_loop [4, 5] (fun n i => ∃ k m : Nat, k ≤ 7 ∧ i = .int .i64 k ∧ n = .int .i64 m ∧ m < 72057594037927936 ∧ m = be (sumN (nl l)) k) (fun _ i => 7 - (intOf i).toNat)
  case atStart => exact ⟨0, 0, by omega, rfl, rfl, by omega, rfl⟩
  case round =>
    obtain ⟨k, m, hk, rfl, rfl, hm, hmk⟩ := hrel
    have HM := Lib.hid hmk; clear hmk
    by_cases hk7 : k < 7
    · have hkd : k < d.size := by omega
      have hb := d[k].toNat_lt
      have hnext : be (sumN (nl l)) (k + 1) = m * 256 + d[k].toNat := by rw [HG.out k hkd, HM.out]; rfl
      have hlt : m * 256 + d[k].toNat < 72057594037927936 := by
        rw [← hnext]
        have h1 := HBE.out (k + 1)
        have h2 : (256 : Nat) ^ (k + 1) ≤ 256 ^ 7 := Nat.pow_le_pow_right (by omega) (by omega)
        omega
      have HN := Lib.hid hnext; clear hnext
      go_wp2_with fail
      go_round
      case rel => exact ⟨k + 1, m * 256 + d[k].toNat, by omega, by go_num, by go_num, hlt, HN.out.symm⟩
      case measure => simp [intOf]; omega
    · obtain rfl : k = 7 := by omega
      have h7d : 7 < d.size := by omega
      have hb := d[7].toNat_lt
      have HS : Hid ((shortN (sumN (nl l)) : Int) = (m : Int) * 16 + (d[7].toNat : Int) / 16) := by
        show _ = _
        unfold shortN
        rw [← HM.out, HG.out 7 h7d]; omega
      go_wp2_with fail
      go_ret
      exact ⟨by rw [HS.out]; rfl, hB2⟩
end Go.Proofs.YtcekmedfphmpcaaDoor
