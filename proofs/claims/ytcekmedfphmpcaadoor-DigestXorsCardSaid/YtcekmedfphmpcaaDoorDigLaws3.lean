/-
  The walk of DigestShorts, and the long strings of every law, from what they ask of the program (Dig).
-/
import Derived.Test.YtcekmedfphmpcaaDoorDigLaws2
namespace Go.Proofs.YtcekmedfphmpcaaDoor
set_option linter.unusedVariables false
set_option linter.unusedSimpArgs false
open Go.RowKit

theorem lat_sum_lt (l : List UInt8) (i : Nat) : lat (sumN (nl l)) i < 256 := by
  unfold lat
  rw [List.getD_eq_getElem?_getD]
  cases hi : (sumN (nl l))[i]? with
  | none => simp
  | some x => exact sumN_byte (nl l) x (List.mem_of_getElem? hi)

section
variable {L : World → Prop} (D : Dig L)
include D

set_option maxRecDepth 100000 in
set_option maxHeartbeats 2000000 in
theorem shortsD (l : List UInt8) (w : World) (hl : l.length ≤ 2000) (hL : L w) :
    Calls Tryd.prog 8 #[.string (bs l)] w fun e w' => e = .returned (.bool true) ∧ Below w.heap.size w w' := by
  have HSm := Lib.hid (fun w (hL : L w) => smallD D w hL)
  have HK := Lib.hid (D.keep w)
  have HSu := Lib.hid (fun w (hL : L w) => D.sum l w (by omega) hL)
  have HTu := Lib.hid (fun w (hL : L w) => D.short l w (by omega) hL)
  have HLT := Lib.hid (lat_sum_lt l)
  have hbe := be_lt (sumN (nl l)) (sumN_byte (nl l))
  have hz : (bs l).size ≤ 2000 := by rw [bs_size]; exact hl
  obtain ⟨d, hd⟩ : ∃ d, bs (sumB l) = d := ⟨_, rfl⟩
  have hsz : d.size = 32 := by rw [← hd, bs_size, sumB_length]
  have hget : ∀ i (h : i < d.size), d[i].toNat = lat (sumN (nl l)) i := by
    subst hd
    intro i h
    rw [bs_get, sumB_at]
  have HG := Lib.hid hget; clear hget
  rw [hd] at HSu
  clear hd
  obtain ⟨U, hU⟩ : ∃ U, sumN (nl l) = U := ⟨_, rfl⟩
  simp only [hU] at HTu HG HLT hbe
  clear hU
  obtain ⟨sl, hsl⟩ : ∃ s, bs l = s := ⟨_, rfl⟩
  rw [hsl] at HSu HTu hz
  rw [hsl]
  clear hsl D
  have HBE : Hid (∀ j, j ≤ 7 → be U j < 72057594037927936) := fun j hj => by
    have h1 := hbe j
    have h2 : (256 : Nat) ^ j ≤ 256 ^ 7 := Nat.pow_le_pow_right (by omega) hj
    omega
  have hsh : shortN U < 1152921504606846976 := by
    have h1 := HBE.out 7 (by omega)
    have h2 := HLT.out 7
    unfold shortN; omega
  have HSH : Hid (shortN U % 16 = lat U 7 / 16 ∧ shortN U / 16 = be U 7) := by
    have h2 := HLT.out 7
    show _ ∧ _
    unfold shortN; omega
  obtain ⟨sh, hshn⟩ : ∃ n, shortN U = n := ⟨_, rfl⟩
  rw [hshn] at HTu hsh HSH
  have hsz' : ((d.size : Int) != 32) = false := by rw [hsz]; rfl
  have hs32 : (d.size : Int) = 32 := by omega
  have hsz2 : 32 ≤ d.size := by omega
  clear hbe hsz
  have HD32 := Lib.hid hs32; clear hs32
  go_enter Tryd.func8, Tryd.ntmps8
  go_wp2_with fail
  refine (HSm.out _ hL).mono ?_; rintro e w1 ⟨rfl, b1⟩
  go_wp2_with fail
  refine (HSu.out _ (HK.out _ hL b1)).mono ?_; rintro e w2 ⟨rfl, b2⟩
  replace b2 := chain b1 b2 (Nat.le_refl _)
  go_wp2_with fail
  refine (HTu.out _ (HK.out _ hL b2)).mono ?_; rintro e w3 ⟨rfl, b3⟩
  replace b3 := chain b2 b3 (Nat.le_refl _)
  go_wp2_with fail
  go_loop [5, 6] (fun n i => ∃ j m : Nat, j ≤ 8 ∧ i = .int .i64 ((j : Int) - 1) ∧ n = .int .i64 m ∧ (j = 8 → m = sh) ∧ (j ≤ 7 → m = be U j)) (fun _ i => (intOf i + 1).toNat)
  case atStart => exact ⟨8, sh, by omega, rfl, rfl, fun _ => rfl, fun h => by omega⟩
  case round =>
    obtain ⟨j, m, hj, rfl, rfl, h8, h7⟩ := hrel
    rcases j with _ | i
    · have hm0 : m = 0 := by rw [h7 (by omega)]; rfl
      subst hm0
      clear h8 h7
      go_wp2_with fail
      go_ret
      exact ⟨rfl, b3⟩
    · rw [show (((i + 1 : Nat) : Int) - 1) = (i : Int) by omega]
      have hid : i < d.size := by omega
      have hb := d[i].toNat_lt
      by_cases hi7 : i = 7
      · subst hi7
        have hm := h8 rfl
        subst hm
        have hc1 : (((m : Int) % 16) != ((d[7].toNat : Int) / 16)) = false := by
          have := HSH.out.1
          rw [← HG.out 7 hid] at this
          simp; omega
        have H2 := Lib.hid HSH.out.2
        clear h8 h7
        go_wp2_with fail
        go_round
        case rel => exact ⟨7, m / 16, by omega, rfl, rfl, fun h => by omega, fun _ => H2.out⟩
        case measure => simp [intOf]
      · have hm := h7 (by omega)
        have hml := HBE.out (i + 1) (by omega)
        rw [← hm] at hml
        have hne7 : ((i : Int) == 7) = false := by simp; omega
        have hlt := HLT.out i
        have hc1 : (((m : Int) % 256) != (d[i].toNat : Int)) = false := by
          rw [HG.out i hid, hm, be]; simp; omega
        have H2 : Hid (m / 256 = be U i) := by show _ = _; rw [hm, be]; omega
        clear h8 h7 hm
        go_wp2_with fail
        go_round
        case rel => exact ⟨i, m / 256, by omega, rfl, rfl, fun h => by omega, fun _ => H2.out⟩
        case measure => simp [intOf]
end
end Go.Proofs.YtcekmedfphmpcaaDoor
