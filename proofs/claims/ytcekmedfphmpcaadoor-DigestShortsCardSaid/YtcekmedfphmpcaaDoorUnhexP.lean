/-
  Contract of the program's Unhex.
-/
import Derived.Test.YtcekmedfphmpcaaDoorHexP
namespace Go.Proofs.YtcekmedfphmpcaaDoor
set_option linter.unusedVariables false
set_option linter.unusedSimpArgs false
open Go.RowKit

theorem bits_or_i64_nat (a b : Nat) (ha : a < 9223372036854775808) (hb : b < 9223372036854775808) : bits .or .i64 (a : Int) (b : Int) = ((a ||| b : Nat) : Int) := by
  have hx : a ||| b < 2 ^ 63 := Nat.or_lt_two_pow (by omega) (by omega)
  have h1 : (BitVec.ofInt 64 (a : Int)).toNat = a := by
    rw [BitVec.ofInt_natCast, BitVec.toNat_ofNat]; exact Nat.mod_eq_of_lt (by omega)
  have h2 : (BitVec.ofInt 64 (b : Int)).toNat = b := by
    rw [BitVec.ofInt_natCast, BitVec.toNat_ofNat]; exact Nat.mod_eq_of_lt (by omega)
  show IntKind.i64.wrap ((BitVec.ofInt 64 (a : Int) ||| BitVec.ofInt 64 (b : Int)).toNat : Int) = _
  rw [BitVec.toNat_or, h1, h2]
  simp [IntKind.wrap, IntKind.bits, IntKind.signed]
  omega
theorem or_digits (a b : Nat) (ha : a < 16) (hb : b < 16) : bits .or .i64 ((a : Int) * 16) (b : Int) = 16 * (a : Int) + b := by
  have := bits_or_i64_nat (a * 16) b (by omega) (by omega)
  rw [Nat.mul_comm a 16, ← Nat.two_pow_add_eq_or_of_lt (i := 4) (by omega)] at this
  rw [show ((a : Int) * 16) = ((16 * a : Nat) : Int) by omega, this]; omega
theorem index_yes (c : UInt8) (w : World) (h : hexv c < 16) : Calls Tryd.prog 21 #[.string { data := #[48, 49, 50, 51, 52, 53, 54, 55, 56, 57, 97, 98, 99, 100, 101, 102] }, .int .u8 (c.toNat : Nat)] w fun e w' => e = .returned (.int .i64 (hexv c : Nat)) ∧ w = w' := by
  have h2 := indexP c w
  unfold hexi at h2; rw [if_pos h] at h2; exact h2
theorem index_no (c : UInt8) (w : World) (h : ¬ hexv c < 16) : Calls Tryd.prog 21 #[.string { data := #[48, 49, 50, 51, 52, 53, 54, 55, 56, 57, 97, 98, 99, 100, 101, 102] }, .int .u8 (c.toNat : Nat)] w fun e w' => e = .returned (.int .i64 (-1)) ∧ w = w' := by
  have h2 := indexP c w
  unfold hexi at h2; rw [if_neg h] at h2; exact h2

set_option maxRecDepth 100000 in
set_option maxHeartbeats 2000000 in
theorem unhexP (l : List UInt8) (w : World) (hl : l.length ≤ 1000000) :
    Calls Tryd.prog 10 #[.string (bs l)] w fun e w' => e = .returned (unhexRes l) ∧ Below w.heap.size w w' := by
  obtain ⟨i0, hi0, hz0, hz1, hz2⟩ := info_parts info5
  obtain ⟨s, hS⟩ : ∃ s, bs l = s := ⟨_, rfl⟩
  have hsz : s.size = l.length := by rw [← hS, bs_size]
  have hs' : s.size ≤ 1000000 := by omega
  have hget : ∀ k (h : k < s.size) (h' : k < l.length), s[k] = l[k] := by subst hS; exact fun k h _ => bs_get l k h
  rw [hS]
  have HG := Lib.hid hget; clear hget
  have HZ := Lib.hid hsz; clear hsz
  have HS := Lib.hid hS; clear hS
  by_cases hodd : s.size % 2 = 1
  · have ho : (((s.size : Int) % 2) == 0) = false := by rw [show ((s.size : Int) % 2) = ((s.size % 2 : Nat) : Int) from rfl, hodd]; rfl
    have ho2 : (((s.size : Int) % 2) != 0) = true := by rw [show ((s.size : Int) % 2) = ((s.size % 2 : Nat) : Int) from rfl, hodd]; rfl
    have HN : Hid (unhexRes l = .tuple #[.string (bs []), .bool false]) := by
      refine unhexRes_none ?_
      rcases hu : unhex l with _ | m
      · rfl
      · have := unhex_even l m hu
        have := HZ.out; omega
    rw [HN.out]
    clear hodd
    go_enter Tryd.func10, Tryd.ntmps10
    go_wp2_with fail
    go_ret2
    exact ⟨rfl, Below.refl _ _⟩
  · have ho : (((s.size : Int) % 2) == 0) = true := by rw [show ((s.size : Int) % 2) = ((s.size % 2 : Nat) : Int) from rfl, show s.size % 2 = 0 by omega]; rfl
    have ho2 : (((s.size : Int) % 2) != 0) = false := by rw [show ((s.size : Int) % 2) = ((s.size % 2 : Nat) : Int) from rfl, show s.size % 2 = 0 by omega]; rfl
    go_enter Tryd.func10, Tryd.ntmps10
    go_wp2_with (at_make; refine wpList_make_own _ rfl _ _ 30 rfl w.heap.size 5 i0 (.int .u8 0) 1 Tryd.underlying30 hi0 hz0 hz1 .i64 .i64 _ (s.size / 2) rfl rfl (by omega) (by rw [hz2]; omega) (by unfold maxLen; omega) (Nat.le_refl _) ?_; intro w0 hown0 hgrow0)
    have hB0 : Below w.heap.size w w0 := (Below.refl _ _).grown hgrow0 (Nat.le_refl _) (fun k hk => by cases hk)
    go_wp2_with fail
    go_loopw [4, 5] (fun b i wr => ∃ (k : Nat) (m : List UInt8), 2 * k ≤ s.size ∧ i = .int .i64 ((2 * k : Nat) : Int) ∧ unhex l = (unhex (l.drop (2 * k))).map (m ++ ·) ∧ m.length = k ∧ wr.ownsRow w.heap.size 5 1 b k (cl m) ∧ Below w.heap.size w wr) (fun _ i _ => s.size - (intOf i).toNat)
    case atStart => exact ⟨0, [], by omega, rfl, by simp, rfl, hown0, hB0⟩
    case round =>
      obtain ⟨k, m, hk, rfl, hu, hml, hown, hB⟩ := hrel
      have hbs := hB.size
      have HU := Lib.hid hu; clear hu
      have HML := Lib.hid hml; clear hml
      obtain ⟨i, hi⟩ : ∃ i, 2 * k = i := ⟨_, rfl⟩
      rw [hi]
      have hik : i ≤ s.size := by omega
      have HI := Lib.hid hi
      by_cases hlt : i < s.size
      · have hlt2 : i + 1 < s.size := by omega
        clear hi hodd ho ho2
        have hkl : i < l.length := by rw [← HZ.out]; exact hlt
        have hkl2 : i + 1 < l.length := by rw [← HZ.out]; exact hlt2
        have HU2 : Hid (unhex l = (unhex (l.drop i)).map (m ++ ·)) := by have := HU.out; rw [HI.out] at this; exact this
        obtain ⟨a, ha⟩ : ∃ a, s[i] = a := ⟨_, rfl⟩
        obtain ⟨b, hb⟩ : ∃ b, s[i + 1] = b := ⟨_, rfl⟩
        have hal : l[i] = a := by rw [← ha, HG.out i hlt hkl]
        have hbl : l[i + 1] = b := by rw [← hb, HG.out (i + 1) hlt2 hkl2]
        have HAL := Lib.hid hal; clear hal
        have HBL := Lib.hid hbl; clear hbl
        have r0 : (0 : Int) ≤ i := by omega
        have r1 : (i : Int) < s.size := by omega
        have r2 : IntKind.i64.wrap ((i : Int) + 1) = i + 1 := IntWalk.i64_in _ (by omega)
        have r3 : (0 : Int) ≤ (i : Int) + 1 := by omega
        have r4 : (i : Int) + 1 < s.size := by omega
        have r5 : ((i : Int) + 1).toNat = i + 1 := by omega
        by_cases hva : hexv a < 16
        · by_cases hvb : hexv b < 16
          · have HN := Lib.hid (unhex_step hkl2 HU2.out (by rw [HAL.out]; exact hva) (by rw [HBL.out]; exact hvb))
            have hor := or_digits _ _ hva hvb
            go_wp2_with fail
            go_region_law (first
              | (go_simp; go_at_call 21; ((with_reducible refine (index_yes a _ hva).mono ?_); rintro e w' ⟨rfl, rfl⟩))
              | (go_simp; go_at_call 21; ((with_reducible refine (index_yes b _ hvb).mono ?_); rintro e w' ⟨rfl, rfl⟩)))
            all_goals
              go_wp2_with (at_builtin; refine wpList_append_own _ rfl _ _ 30 rfl w.heap.size 5 i0 (.int .u8 0) 1 1 Tryd.underlying30 hi0 hz0 hz1 hz2 rfl (by decide) _ _ _ rfl (hown.drew.alloc _) ⟨wr.heap.size, 0, none⟩ 1 1 [.int .u8 (16 * (hexv a : Int) + hexv b)] rfl rfl (cell_one_new _ _ _) (fun x hx => by simp at hx; subst hx; rfl) (by unfold maxLen; omega) (by omega) (by simp; omega) ?_; intro v' w3 hown3 hgrow3 hnil3)
              go_roundw
              case rel =>
                refine ⟨k + 1, m ++ [UInt8.ofNat (16 * hexv a + hexv b)], by have := HI.out; omega, by have := HI.out; congr 1; omega, ?_, by rw [List.length_append, HML.out]; rfl, ?_, (hB.drew.alloc hbs _).grown hgrow3 (by simp; omega) (fun k hk => (hown.lt k hk).1)⟩
                · have := HN.out
                  rw [HAL.out, HBL.out] at this
                  rw [show 2 * (k + 1) = i + 2 by have := HI.out; omega]
                  exact this
                · rw [cl_append]
                  have e : cl [UInt8.ofNat (16 * hexv a + hexv b)] = [.int .u8 (16 * (hexv a : Int) + hexv b)] := by
                    simp only [cl, List.map_cons, List.map_nil]; rw [u8_of (by omega)]; rfl
                  rw [e]; exact hown3
              case measure => simp [intOf]; omega
          · have HN : Hid (unhexRes l = .tuple #[.string (bs []), .bool false]) := unhexRes_none (unhex_bad hkl2 HU2.out (fun hc => hvb (by rw [← HBL.out]; exact hc.2)))
            have hd : decide ((hexv a : Int) < 0) = false := by simp
            go_wp2_with fail
            go_region_law (first
              | (go_simp; go_at_call 21; ((with_reducible refine (index_yes a _ hva).mono ?_); rintro e w' ⟨rfl, rfl⟩))
              | (go_simp; go_at_call 21; ((with_reducible refine (index_no b _ hvb).mono ?_); rintro e w' ⟨rfl, rfl⟩)))
            all_goals
              go_wp2_with fail
              go_ret2
              exact ⟨by rw [HN.out]; rfl, hB.drew⟩
        · have HN : Hid (unhexRes l = .tuple #[.string (bs []), .bool false]) := unhexRes_none (unhex_bad hkl2 HU2.out (fun hc => hva (by rw [← HAL.out]; exact hc.1)))
          go_wp2_with fail
          by_cases hvb : hexv b < 16
          · go_region_law (first
              | (go_simp; go_at_call 21; ((with_reducible refine (index_no a _ hva).mono ?_); rintro e w' ⟨rfl, rfl⟩))
              | (go_simp; go_at_call 21; ((with_reducible refine (index_yes b _ hvb).mono ?_); rintro e w' ⟨rfl, rfl⟩)))
            all_goals
              go_wp2_with fail
              go_ret2
              exact ⟨by rw [HN.out]; rfl, hB.drew⟩
          · go_region_law (first
              | (go_simp; go_at_call 21; ((with_reducible refine (index_no a _ hva).mono ?_); rintro e w' ⟨rfl, rfl⟩))
              | (go_simp; go_at_call 21; ((with_reducible refine (index_no b _ hvb).mono ?_); rintro e w' ⟨rfl, rfl⟩)))
            all_goals
              go_wp2_with fail
              go_ret2
              exact ⟨by rw [HN.out]; rfl, hB.drew⟩
      · have HN : Hid (unhexRes l = .tuple #[.string (bs m), .bool true]) := by
          refine unhexRes_some ?_
          have h1 := HU.out
          rw [List.drop_eq_nil_of_le (by have := HZ.out; omega)] at h1
          rw [h1]; simp [unhex]
        have hcv := conv_any hown
        clear hi hodd
        go_wp2_with fail
        go_ret2
        exact ⟨by rw [HN.out]; rfl, hB⟩
end Go.Proofs.YtcekmedfphmpcaaDoor
