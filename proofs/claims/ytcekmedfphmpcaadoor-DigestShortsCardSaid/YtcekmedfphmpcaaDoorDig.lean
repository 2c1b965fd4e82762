/-
  What the laws ask of the program (Dig), and the walks of the laws from it.
-/
import Derived.Test.YtcekmedfphmpcaaDoorCrcRef
import Derived.Test.YtcekmedfphmpcaaDoorHexRef
import Derived.Test.YtcekmedfphmpcaaDoorShortRef
import Derived.Test.YtcekmedfphmpcaaDoorFlip
namespace Go.Proofs.YtcekmedfphmpcaaDoor
set_option linter.unusedVariables false
set_option linter.unusedSimpArgs false
open Go.RowKit

/-- The program's functions answer so, on every string of at most 4000 bytes, in every world that L allows (the tables hold what they hold from the start). -/
structure Dig (L : World → Prop) : Prop where
  keep : ∀ w w', L w → Below w.heap.size w w' → L w'
  crc0 : ∀ (l : List UInt8) (w : World), l.length ≤ 4000 → Calls Tryd.prog 16 #[.string (bs l)] w fun e w' => e = .returned (.int .i64 (crc l : Nat)) ∧ w = w'
  sum : ∀ (l : List UInt8) (w : World), l.length ≤ 4000 → L w → Calls Tryd.prog 12 #[.string (bs l)] w fun e w' => e = .returned (.string (bs (sumB l))) ∧ Below w.heap.size w w'
  short : ∀ (l : List UInt8) (w : World), l.length ≤ 4000 → L w → Calls Tryd.prog 14 #[.string (bs l)] w fun e w' => e = .returned (.int .i64 (shortN (sumN (nl l)) : Nat)) ∧ Below w.heap.size w w'
  hex : ∀ (l : List UInt8) (w : World), l.length ≤ 4000 → Calls Tryd.prog 18 #[.string (bs l)] w fun e w' => e = .returned (.string (bs (hex l))) ∧ Below w.heap.size w w'
  unhex : ∀ (l : List UInt8) (w : World), l.length ≤ 4000 → Calls Tryd.prog 10 #[.string (bs l)] w fun e w' => e = .returned (unhexRes l) ∧ Below w.heap.size w w'
theorem Dig.crc {L : World → Prop} (D : Dig L) (l : List UInt8) (w : World) (h : l.length ≤ 4000) : Calls Tryd.prog 16 #[.string (bs l)] w fun e w' => e = .returned (.int .i64 (Go.Proofs.YtcekmedfphmpcaaDoor.crc l : Nat)) ∧ Below w.heap.size w w' :=
  (D.crc0 l w h).mono fun e w' h => ⟨h.1, by rw [h.2]; exact Below.refl _ _⟩

theorem hex_abc : bs (hex (sumB [97, 98, 99])) = { data := #[51, 97, 57, 56, 53, 100, 97, 55, 52, 102, 101, 50, 50, 53, 98, 50, 48, 52, 53, 99, 49, 55, 50, 100, 54, 98, 100, 51, 57, 48, 98, 100, 56, 53, 53, 102, 48, 56, 54, 101, 51, 101, 57, 100, 53, 50, 53, 98, 52, 54, 98, 102, 101, 50, 52, 53, 49, 49, 52, 51, 49, 53, 51, 50] } := by
  have : hex (sumB [97, 98, 99]) = (#[51, 97, 57, 56, 53, 100, 97, 55, 52, 102, 101, 50, 50, 53, 98, 50, 48, 52, 53, 99, 49, 55, 50, 100, 54, 98, 100, 51, 57, 48, 98, 100, 56, 53, 53, 102, 48, 56, 54, 101, 51, 101, 57, 100, 53, 50, 53, 98, 52, 54, 98, 102, 101, 50, 52, 53, 49, 49, 52, 51, 49, 53, 51, 50] : Array UInt8).toList := by decide +kernel
  rw [this]; rfl
theorem hex_nil : bs (hex (sumB [])) = { data := #[97, 55, 102, 102, 99, 54, 102, 56, 98, 102, 49, 101, 100, 55, 54, 54, 53, 49, 99, 49, 52, 55, 53, 54, 97, 48, 54, 49, 100, 54, 54, 50, 102, 53, 56, 48, 102, 102, 52, 100, 101, 52, 51, 98, 52, 57, 102, 97, 56, 50, 100, 56, 48, 97, 52, 98, 56, 48, 102, 56, 52, 51, 52, 97] } := by
  have : hex (sumB []) = (#[97, 55, 102, 102, 99, 54, 102, 56, 98, 102, 49, 101, 100, 55, 54, 54, 53, 49, 99, 49, 52, 55, 53, 54, 97, 48, 54, 49, 100, 54, 54, 50, 102, 53, 56, 48, 102, 102, 52, 100, 101, 52, 51, 98, 52, 57, 102, 97, 56, 50, 100, 56, 48, 97, 52, 98, 56, 48, 102, 56, 52, 51, 52, 97] : Array UInt8).toList := by decide +kernel
  rw [this]; rfl
theorem un_1 : unhexRes [48, 65] = .tuple #[.string (bs []), .bool false] := unhexRes_none (by decide +kernel)
theorem un_2 : unhexRes [48, 97] = .tuple #[.string (bs [10]), .bool true] := unhexRes_some (by decide +kernel)

section
variable {L : World → Prop} (D : Dig L)
include D
set_option maxRecDepth 100000 in
set_option maxHeartbeats 1000000 in
theorem smallD (w : World) (hL : L w) : Calls Tryd.prog 9 #[] w fun e w' => e = .returned (.bool true) ∧ Below w.heap.size w w' := by
  have H1 : Hid (∀ w, Calls Tryd.prog 10 #[.string { data := #[48, 65] }] w fun e w' => e = .returned (.tuple #[.string (bs []), .bool false]) ∧ Below w.heap.size w w') := fun w => by
    have h := D.unhex [48, 65] w (by simp); rw [un_1] at h; exact h
  have H2 : Hid (∀ w, Calls Tryd.prog 10 #[.string { data := #[48, 97] }] w fun e w' => e = .returned (.tuple #[.string { data := #[10] }, .bool true]) ∧ Below w.heap.size w w') := fun w => by
    have h := D.unhex [48, 97] w (by simp); rw [un_2] at h; exact h
  have H3 : Hid (∀ w, L w → Calls Tryd.prog 12 #[.string { data := #[97, 98, 99] }] w fun e w' => e = .returned (.string (bs (sumB [97, 98, 99]))) ∧ Below w.heap.size w w') := fun w hL => D.sum [97, 98, 99] w (by simp) hL
  have H4 : Hid (∀ w, Calls Tryd.prog 18 #[.string (bs (sumB [97, 98, 99]))] w fun e w' => e = .returned (.string { data := #[51, 97, 57, 56, 53, 100, 97, 55, 52, 102, 101, 50, 50, 53, 98, 50, 48, 52, 53, 99, 49, 55, 50, 100, 54, 98, 100, 51, 57, 48, 98, 100, 56, 53, 53, 102, 48, 56, 54, 101, 51, 101, 57, 100, 53, 50, 53, 98, 52, 54, 98, 102, 101, 50, 52, 53, 49, 49, 52, 51, 49, 53, 51, 50] }) ∧ Below w.heap.size w w') := fun w => by
    have h := D.hex (sumB [97, 98, 99]) w (by rw [sumB_length]; omega); rw [hex_abc] at h; exact h
  have H5 : Hid (∀ w, L w → Calls Tryd.prog 12 #[.string { data := #[] }] w fun e w' => e = .returned (.string (bs (sumB []))) ∧ Below w.heap.size w w') := fun w hL => D.sum [] w (by simp) hL
  have H6 : Hid (∀ w, Calls Tryd.prog 18 #[.string (bs (sumB []))] w fun e w' => e = .returned (.string { data := #[97, 55, 102, 102, 99, 54, 102, 56, 98, 102, 49, 101, 100, 55, 54, 54, 53, 49, 99, 49, 52, 55, 53, 54, 97, 48, 54, 49, 100, 54, 54, 50, 102, 53, 56, 48, 102, 102, 52, 100, 101, 52, 51, 98, 52, 57, 102, 97, 56, 50, 100, 56, 48, 97, 52, 98, 56, 48, 102, 56, 52, 51, 52, 97] }) ∧ Below w.heap.size w w') := fun w => by
    have h := D.hex (sumB []) w (by rw [sumB_length]; omega); rw [hex_nil] at h; exact h
  have H7 : Hid (∀ w, Calls Tryd.prog 16 #[.string { data := #[49, 50, 51, 52, 53, 54, 55, 56, 57] }] w fun e w' => e = .returned (.int .i64 3808858755) ∧ Below w.heap.size w w') := fun w => by
    have h := D.crc [49, 50, 51, 52, 53, 54, 55, 56, 57] w (by simp); rw [crc_123] at h; exact h
  have H8 : Hid (∀ w, Calls Tryd.prog 16 #[.string { data := #[] }] w fun e w' => e = .returned (.int .i64 0) ∧ Below w.heap.size w w') := fun w => by
    have h := D.crc [] w (by simp); rw [crc_nil] at h; exact h
  have hnil := bs_empty []
  obtain ⟨sa, hsa⟩ : ∃ s, bs (sumB [97, 98, 99]) = s := ⟨_, rfl⟩
  obtain ⟨sn, hsn⟩ : ∃ s, bs (sumB []) = s := ⟨_, rfl⟩
  obtain ⟨s0, hs0⟩ : ∃ s, bs [] = s := ⟨_, rfl⟩
  rw [hsa] at H3 H4
  rw [hsn] at H5 H6
  rw [hs0] at H1
  clear hsa hsn hs0 hnil
  have HK := Lib.hid (D.keep w)
  go_enter Tryd.func9, Tryd.ntmps9
  go_wp2_with fail
  refine (H1.out _).mono ?_; rintro e w1 ⟨rfl, b1⟩
  go_wp2_with fail
  refine (H2.out _).mono ?_; rintro e w2 ⟨rfl, b2⟩
  replace b2 := b1.trans (b2.mono b1.size)
  go_wp2_with fail
  refine (H3.out _ (HK.out _ hL b2)).mono ?_; rintro e w3 ⟨rfl, b3⟩
  replace b3 := b2.trans (b3.mono b2.size)
  go_wp2_with fail
  refine (H4.out _).mono ?_; rintro e w4 ⟨rfl, b4⟩
  replace b4 := b3.trans (b4.mono b3.size)
  go_wp2_with fail
  refine (H5.out _ (HK.out _ hL b4)).mono ?_; rintro e w5 ⟨rfl, b5⟩
  replace b5 := b4.trans (b5.mono b4.size)
  go_wp2_with fail
  refine (H6.out _).mono ?_; rintro e w6 ⟨rfl, b6⟩
  replace b6 := b5.trans (b6.mono b5.size)
  go_wp2_with fail
  refine (H7.out _).mono ?_; rintro e w7 ⟨rfl, b7⟩
  replace b7 := b6.trans (b7.mono b6.size)
  go_wp2_with fail
  refine (H8.out _).mono ?_; rintro e w8 ⟨rfl, b8⟩
  replace b8 := b7.trans (b8.mono b7.size)
  go_wp2_with fail
  go_ret
  exact ⟨rfl, b8⟩
end
end Go.Proofs.YtcekmedfphmpcaaDoor
