/-
  The walks of the laws of stage 3, from what they ask of the program (Dig).
-/
import Derived.Test.YtcekmedfphmpcaaDoorDig
namespace Go.Proofs.YtcekmedfphmpcaaDoor
set_option linter.unusedVariables false
set_option linter.unusedSimpArgs false
open Go.RowKit

theorem chain {w w1 w2 : World} {B : Nat} (h : Below B w w1) (k : Below w1.heap.size w1 w2) (hB : B ≤ w.heap.size) : Below B w w2 := h.trans (k.mono (Nat.le_trans hB h.size))

section
variable {L : World → Prop} (D : Dig L)
include D

set_option maxRecDepth 100000 in
set_option maxHeartbeats 2000000 in
theorem tellsD (l m : List UInt8) (w : World) (hl : l.length ≤ 2000) (hm : m.length ≤ 2000) (hL : L w) :
    Calls Tryd.prog 3 #[.string (bs l), .string (bs m)] w fun e w' => e = .returned (.bool true) ∧ Below w.heap.size w w' := by
  obtain ⟨u, b, hu⟩ : ∃ u b, unhexRes m = .tuple #[.string (bs u), .bool b] := ⟨_, _, rfl⟩
  have hU := fun w => D.unhex m w (by omega)
  have hV := fun w => unhexR m w (by omega)
  simp only [hu] at hU hV
  have HSm := Lib.hid (fun w (hL : L w) => smallD D w hL)
  have HK := Lib.hid (D.keep w)
  have HSu := Lib.hid (fun w (hL : L w) => D.sum l w (by omega) hL)
  have HSr : Hid (∀ w, Calls Tryd.prog 13 #[.string (bs l)] w fun e w' => e = .returned (.string (bs (sumB l))) ∧ Below w.heap.size w w') := fun w => sumR l w (by omega)
  have HTu := Lib.hid (fun w (hL : L w) => D.short l w (by omega) hL)
  have HTr := Lib.hid (fun w => shortR l w (by omega))
  have HCu := Lib.hid (fun w => D.crc l w (by omega))
  have HCr := Lib.hid (fun w => crcR l w (by omega))
  have HHu := Lib.hid (fun w => D.hex l w (by omega))
  have HHr := Lib.hid (fun w => hexR l w (by omega))
  have HU := Lib.hid hU; clear hU
  have HV := Lib.hid hV; clear hV hu
  obtain ⟨sl, hsl⟩ : ∃ s, bs l = s := ⟨_, rfl⟩
  obtain ⟨sm, hsm⟩ : ∃ s, bs m = s := ⟨_, rfl⟩
  obtain ⟨su, hsu⟩ : ∃ s, bs u = s := ⟨_, rfl⟩
  obtain ⟨sd, hsd⟩ : ∃ s, bs (sumB l) = s := ⟨_, rfl⟩
  obtain ⟨sh, hsh⟩ : ∃ s, bs (hex l) = s := ⟨_, rfl⟩
  have hz1 : sl.size ≤ 2000 := by rw [← hsl, bs_size]; exact hl
  have hz2 : sm.size ≤ 2000 := by rw [← hsm, bs_size]; exact hm
  rw [hsl, hsd] at HSu HSr
  rw [hsl] at HTu HTr HCu HCr
  rw [hsl, hsh] at HHu HHr
  rw [hsm, hsu] at HU HV
  rw [hsl, hsm]
  clear hsl hsm hsu hsd hsh D
  go_enter Tryd.func3, Tryd.ntmps3
  go_wp2_with fail
  refine (HSm.out _ hL).mono ?_; rintro e w1 ⟨rfl, b1⟩
  go_wp2_with fail
  refine (HU.out _).mono ?_; rintro e w2 ⟨rfl, b2⟩
  replace b2 := chain b1 b2 (Nat.le_refl _)
  go_wp2_with fail
  refine (HV.out _).mono ?_; rintro e w3 ⟨rfl, b3⟩
  replace b3 := chain b2 b3 (Nat.le_refl _)
  go_wp2_with fail
  refine (HSu.out _ (HK.out _ hL b3)).mono ?_; rintro e w4 ⟨rfl, b4⟩
  replace b4 := chain b3 b4 (Nat.le_refl _)
  go_wp2_with fail
  refine (HSr.out _).mono ?_; rintro e w5 ⟨rfl, b5⟩
  replace b5 := chain b4 b5 (Nat.le_refl _)
  go_wp2_with fail
  refine (HTu.out _ (HK.out _ hL b5)).mono ?_; rintro e w6 ⟨rfl, b6⟩
  replace b6 := chain b5 b6 (Nat.le_refl _)
  go_wp2_with fail
  refine (HTr.out _).mono ?_; rintro e w7 ⟨rfl, b7⟩
  replace b7 := chain b6 b7 (Nat.le_refl _)
  go_wp2_with fail
  refine (HCu.out _).mono ?_; rintro e w8 ⟨rfl, b8⟩
  replace b8 := chain b7 b8 (Nat.le_refl _)
  go_wp2_with fail
  refine (HCr.out _).mono ?_; rintro e w' ⟨rfl, rfl⟩
  go_wp2_with fail
  refine (HHu.out _).mono ?_; rintro e w9 ⟨rfl, b9⟩
  replace b9 := chain b8 b9 (Nat.le_refl _)
  go_wp2_with fail
  refine (HHr.out _).mono ?_; rintro e w10 ⟨rfl, b10⟩
  replace b10 := chain b9 b10 (Nat.le_refl _)
  go_wp2_with fail
  go_ret
  exact ⟨by simp, b10⟩
end
end Go.Proofs.YtcekmedfphmpcaaDoor
