/-
  The law's small examples hold.
-/
import Derived.Test.YtebepofbngdccaaList
namespace Go.Proofs.Ytebepofbngdccaa
set_option linter.unusedVariables false
set_option linter.unusedSimpArgs false
open Go.RowKit

theorem num_at (n : Nat) (s : ByteArray) (w : World) (h1 : n ≤ 9223372036854775807) (hs : bs (enc n) = s) :
    Calls Try.prog 11 #[.int .i64 n] w fun e w' => e = .returned (.string s) ∧ Below w.heap.size w w' := by
  subst hs; exact wnum n w h1
theorem int_at (n : Int) (s : ByteArray) (w : World) (h0 : -9223372036854775808 ≤ n) (h1 : n ≤ 9223372036854775807) (hs : bs (enc (zig n)) = s) :
    Calls Try.prog 13 #[.int .i64 n] w fun e w' => e = .returned (.string s) ∧ Below w.heap.size w w' := by
  subst hs; exact wint n w h0 h1
theorem e0 : enc 0 = [0] := enc_lo (by omega)
theorem e1 : enc 1 = [1] := enc_lo (by omega)
theorem e2 : enc 2 = [2] := enc_lo (by omega)
theorem e3 : enc 3 = [3] := enc_lo (by omega)
theorem e127 : enc 127 = [127] := enc_lo (by omega)
theorem e128 : enc 128 = [128, 1] := by rw [enc_hi (by omega)]; show _ :: enc 1 = _; rw [e1]; rfl
theorem e300 : enc 300 = [172, 2] := by rw [enc_hi (by omega)]; show _ :: enc 2 = _; rw [e2]; rfl

theorem text_at (w : World) : Calls Try.prog 15 #[.string { data := #[97, 0, 98] }] w fun e w' => e = .returned (.string { data := #[3, 97, 0, 98] }) ∧ Below w.heap.size w w' := by
  have h := wtext [97, 0, 98] w (by simp)
  have e : bs (enc ([97, 0, 98] : List UInt8).length ++ ([97, 0, 98] : List UInt8)) = { data := #[3, 97, 0, 98] } := by show bs (enc 3 ++ _) = _; rw [e3]; rfl
  rw [e] at h
  exact h
theorem texts_at (w : World) : Calls Try.prog 19 #[.slice none 0 0] w fun e w' => e = .returned (.string { data := #[0] }) ∧ Below w.heap.size w w' := by
  have h := wtexts (.slice none 0 0) [] w ⟨none, 0, rfl, fun h => by simp [sv] at h⟩ (by simp) (by simp)
  have e : bs (encTexts []) = { data := #[0] } := by show bs (enc 0 ++ _) = _; rw [e0]; rfl
  rw [e] at h
  exact h
theorem nums_at (W : World) : Calls Try.prog 17 #[.slice (some ⟨W.heap.size, 0, none⟩) 2 2] (W.alloc (.cells #[.int .i64 1, .int .i64 (-1)] 3)) fun e w' => e = .returned (.string { data := #[2, 2, 1] }) ∧ Below W.heap.size W w' := by
  have hr : Row (W.alloc (.cells #[.int .i64 1, .int .i64 (-1)] 3)) (W.alloc (.cells #[.int .i64 1, .int .i64 (-1)] 3)).heap.size (.slice (some ⟨W.heap.size, 0, none⟩) 2 2) (iv [1, -1]) := by
    refine ⟨_, 2, rfl, fun _ => ⟨_, 0, rfl, by simp, fun k hk => ?_⟩⟩
    rw [World.cell?_alloc_at _ _ _ _ rfl, Nat.zero_add]
    simp [iv]
  have h := wnums _ [1, -1] _ hr (by intro z hz; simp at hz; rcases hz with rfl | rfl <;> (constructor <;> omega)) (by simp)
  have e : bs (encNums [1, -1]) = { data := #[2, 2, 1] } := by
    show bs (enc 2 ++ (enc (zig 1) ++ (enc (zig (-1)) ++ []))) = _
    rw [show zig 1 = 2 from rfl, show zig (-1) = 1 from rfl, e2, e1]; rfl
  rw [e] at h
  refine h.mono fun e w' ⟨he, hb⟩ => ⟨he, ((Below.refl _ W).alloc (Nat.le_refl _) _).trans (hb.mono (by simp))⟩

theorem open_at (w : World) : Calls Try.prog 21 #[.string { data := #[128, 0] }] w fun e w' => e = .returned (.pointer (some ⟨w.heap.size, 0, none⟩)) ∧ Rd w' w.heap.size 59 ⟨[128, 0], false⟩ ∧ Below w.heap.size w w' :=
  (wOpen [128, 0] w).mono fun e w' ⟨he, hw⟩ => ⟨he, by rw [hw]; exact Rd.opened _ _ _, by rw [hw]; exact (Below.refl _ _).alloc (Nat.le_refl _) _⟩

theorem read_at (g : Nat) (w : World) (h : Rd w g 59 ⟨[128, 0], false⟩) : Calls Try.prog 24 #[.pointer (some ⟨g, 0, none⟩)] w fun e w' => e = .returned (.int .i64 0) ∧ Rd w' g 59 St.fail ∧ w.grownBy w' (some g) := by
  have hc := wNum g _ w h (by simp)
  have hf : first [128, 0] = none := by decide +kernel
  have e : fNum ⟨[128, 0], false⟩ = (0, St.fail) := by unfold fNum fNumber; simp only [hf]; rfl
  rw [e] at hc
  exact hc

set_option maxRecDepth 100000 in
set_option maxHeartbeats 1000000 in
theorem small_any (w : World) : Calls Try.prog 9 #[] w fun e w' => e = .returned (.bool true) ∧ Below w.heap.size w w' := by
  have b0 : Below w.heap.size w w := Below.refl _ _
  go_enter Try.func9, Try.ntmps9
  go_wp2_with fail
  refine (num_at 0 { data := #[0] } _ (by omega) (by rw [e0]; rfl)).mono ?_; rintro e w1 ⟨rfl, h1⟩
  have b1 := b0.trans (h1.mono b0.size); clear h1 b0
  go_wp2_with fail
  refine (num_at 127 { data := #[127] } _ (by omega) (by rw [e127]; rfl)).mono ?_; rintro e w2 ⟨rfl, h1⟩
  have b2 := b1.trans (h1.mono b1.size); clear h1 b1
  go_wp2_with fail
  refine (num_at 128 { data := #[128, 1] } _ (by omega) (by rw [e128]; rfl)).mono ?_; rintro e w3 ⟨rfl, h1⟩
  have b3 := b2.trans (h1.mono b2.size); clear h1 b2
  go_wp2_with fail
  refine (num_at 300 { data := #[172, 2] } _ (by omega) (by rw [e300]; rfl)).mono ?_; rintro e w4 ⟨rfl, h1⟩
  have b4 := b3.trans (h1.mono b3.size); clear h1 b3
  go_wp2_with fail
  refine (int_at (-1) { data := #[1] } _ (by omega) (by omega) (by rw [show zig (-1) = 1 from rfl, e1]; rfl)).mono ?_; rintro e w5 ⟨rfl, h1⟩
  have b5 := b4.trans (h1.mono b4.size); clear h1 b4
  go_wp2_with fail
  refine (int_at 1 { data := #[2] } _ (by omega) (by omega) (by rw [show zig 1 = 2 from rfl, e2]; rfl)).mono ?_; rintro e w6 ⟨rfl, h1⟩
  have b6 := b5.trans (h1.mono b5.size); clear h1 b5
  go_wp2_with fail
  refine (int_at (-64) { data := #[127] } _ (by omega) (by omega) (by rw [show zig (-64) = 127 from rfl, e127]; rfl)).mono ?_; rintro e w7 ⟨rfl, h1⟩
  have b7 := b6.trans (h1.mono b6.size); clear h1 b6
  go_wp2_with fail
  refine (int_at 64 { data := #[128, 1] } _ (by omega) (by omega) (by rw [show zig 64 = 128 from rfl, e128]; rfl)).mono ?_; rintro e w8 ⟨rfl, h1⟩
  have b8 := b7.trans (h1.mono b7.size); clear h1 b7
  go_wp2_with fail
  refine (text_at _).mono ?_; rintro e w9 ⟨rfl, h1⟩
  have b9 := b8.trans (h1.mono b8.size); clear h1 b8
  go_wp2_with fail
  refine (nums_at _).mono ?_; rintro e w10 ⟨rfl, h1⟩
  have b10 := b9.trans (h1.mono b9.size); clear h1 b9
  go_wp2_with fail
  refine (texts_at _).mono ?_; rintro e w11 ⟨rfl, h1⟩
  have b11 := b10.trans (h1.mono b10.size); clear h1 b10
  go_wp2_with fail
  refine (open_at _).mono ?_; rintro e w12 ⟨rfl, hr, h1⟩
  have b12 := b11.trans (h1.mono b11.size); clear h1
  have hsz := b11.size
  clear b11
  go_wp2_with fail
  refine (read_at _ _ hr).mono ?_; rintro e w13 ⟨rfl, hr13, hg13⟩
  have b13 := b12.trans (Below.of_grown hg13 b12.size hsz); clear hr hg13
  go_wp2_with fail
  refine (wLeft _ _ _ hr13 (by simp [St.fail])).mono ?_; rintro e w' ⟨rfl, rfl⟩
  go_wp2_with fail
  refine (wDone _ _ _ hr13).mono ?_; rintro e w' ⟨rfl, rfl⟩
  go_wp2_with fail
  go_ret
  exact ⟨rfl, b13⟩
end Go.Proofs.Ytebepofbngdccaa
