/-
  The walks of DigestHexes, DigestDetects and DigestResidue, from what they ask of the program (Dig).
-/
import Derived.Test.YtcekmedfphmpcaaDoorDigLaws
namespace Go.Proofs.YtcekmedfphmpcaaDoor
set_option linter.unusedVariables false
set_option linter.unusedSimpArgs false
open Go.RowKit

section
variable {L : World → Prop} (D : Dig L)
include D

set_option maxRecDepth 100000 in
set_option maxHeartbeats 2000000 in
theorem hexesD (l m : List UInt8) (w : World) (hl : l.length ≤ 2000) (hm : m.length ≤ 2000) (hL : L w) :
    Calls Tryd.prog 4 #[.string (bs l), .string (bs m)] w fun e w' => e = .returned (.bool true) ∧ Below w.heap.size w w' := by
  have HSm := Lib.hid (fun w (hL : L w) => smallD D w hL)
  have HK := Lib.hid (D.keep w)
  have HH := Lib.hid (fun w => D.hex l w (by omega))
  have hx := fun w => D.unhex (hex l) w (by rw [hex_length]; omega)
  simp only [unhexRes_some (unhex_hex l)] at hx
  have HX := Lib.hid hx; clear hx
  have hy := fun w => D.unhex m w (by omega)
  obtain ⟨sl, hsl⟩ : ∃ s, bs l = s := ⟨_, rfl⟩
  obtain ⟨sm, hsm⟩ : ∃ s, bs m = s := ⟨_, rfl⟩
  obtain ⟨sx, hsx⟩ : ∃ s, bs (hex l) = s := ⟨_, rfl⟩
  have hz1 : sl.size ≤ 2000 := by rw [← hsl, bs_size]; exact hl
  have hz2 : sm.size ≤ 2000 := by rw [← hsm, bs_size]; exact hm
  have hz3 : sx.size = 2 * sl.size := by rw [← hsx, ← hsl, bs_size, bs_size, hex_length]
  have hz4 : ((sx.size : Int) == 2 * (sl.size : Int)) = true := by rw [hz3]; simp
  have hz5 : sx.size ≤ 4000 := by omega
  clear hz3
  rw [hsl, hsx] at HH
  rw [hsx, hsl] at HX
  rcases hu : unhex m with _ | u
  · simp only [unhexRes_none hu] at hy
    have HY := Lib.hid hy; clear hy
    have he := bs_empty []
    obtain ⟨s0, hs0⟩ : ∃ s, bs [] = s := ⟨_, rfl⟩
    rw [hs0] at HY he
    have he' : s0.toList.isEmpty = true := he
    rw [hsm] at HY
    rw [hsl, hsm]
    clear hsl hsm hsx hs0 hu he D
    go_enter Tryd.func4, Tryd.ntmps4
    go_wp2_with fail
    refine (HSm.out _ hL).mono ?_; rintro e w1 ⟨rfl, b1⟩
    go_wp2_with fail
    refine (HH.out _).mono ?_; rintro e w2 ⟨rfl, b2⟩
    replace b2 := chain b1 b2 (Nat.le_refl _)
    go_wp2_with fail
    refine (HX.out _).mono ?_; rintro e w3 ⟨rfl, b3⟩
    replace b3 := chain b2 b3 (Nat.le_refl _)
    go_wp2_with fail
    refine (HY.out _).mono ?_; rintro e w4 ⟨rfl, b4⟩
    replace b4 := chain b3 b4 (Nat.le_refl _)
    go_wp2_with fail
    go_ret
    exact ⟨by simp [he'], b4⟩
  · simp only [unhexRes_some hu] at hy
    have HY := Lib.hid hy; clear hy
    have hul : u.length ≤ 4000 := by have := hex_length u; rw [hex_unhex m u hu] at this; omega
    have hh := fun w => D.hex u w hul
    simp only [hex_unhex m u hu] at hh
    have HU := Lib.hid hh; clear hh
    obtain ⟨su, hsu⟩ : ∃ s, bs u = s := ⟨_, rfl⟩
    rw [hsm, hsu] at HY
    rw [hsu, hsm] at HU
    rw [hsl, hsm]
    clear hsl hsm hsx hsu hu hul D
    go_enter Tryd.func4, Tryd.ntmps4
    go_wp2_with fail
    refine (HSm.out _ hL).mono ?_; rintro e w1 ⟨rfl, b1⟩
    go_wp2_with fail
    refine (HH.out _).mono ?_; rintro e w2 ⟨rfl, b2⟩
    replace b2 := chain b1 b2 (Nat.le_refl _)
    go_wp2_with fail
    refine (HX.out _).mono ?_; rintro e w3 ⟨rfl, b3⟩
    replace b3 := chain b2 b3 (Nat.le_refl _)
    go_wp2_with fail
    refine (HY.out _).mono ?_; rintro e w4 ⟨rfl, b4⟩
    replace b4 := chain b3 b4 (Nat.le_refl _)
    go_wp2_with fail
    refine (HU.out _).mono ?_; rintro e w5 ⟨rfl, b5⟩
    replace b5 := chain b4 b5 (Nat.le_refl _)
    go_wp2_with fail
    go_ret
    exact ⟨by simp, b5⟩

set_option maxRecDepth 100000 in
set_option maxHeartbeats 2000000 in
theorem detectsD (l : List UInt8) (bit : Nat) (pat : Int) (w : World) (hl : l.length ≤ 2000) (hbit : bit < 8 * l.length) (hL : L w) :
    Calls Tryd.prog 5 #[.string (bs l), .int .i64 bit, .int .i64 pat] w fun e w' => e = .returned (.bool true) ∧ Below w.heap.size w w' := by
  have HSm := Lib.hid (fun w (hL : L w) => smallD D w hL)
  have HK := Lib.hid (D.keep w)
  have HC := Lib.hid (fun w => D.crc l w (by omega))
  have HCm := Lib.hid (fun (m : List UInt8) (hm : m.length = l.length) w => D.crc m w (by omega))
  have HF := Lib.hid (fun w => flippedR l bit pat w (by omega) hbit)
  have hz : (bs l).size ≤ 2000 := by rw [bs_size]; exact hl
  have hz2 : bit < 8 * (bs l).size := by rw [bs_size]; exact hbit
  obtain ⟨sl, hsl⟩ : ∃ s, bs l = s := ⟨_, rfl⟩
  rw [hsl] at HC HF hz hz2
  rw [hsl]
  have HS := Lib.hid hsl; clear hsl D
  go_enter Tryd.func5, Tryd.ntmps5
  go_wp2_with fail
  refine (HSm.out _ hL).mono ?_; rintro e w1 ⟨rfl, b1⟩
  go_wp2_with fail
  refine (HF.out _).mono ?_; rintro e w2 ⟨m, rfl, hfl, b2⟩
  replace b2 := chain b1 b2 (Nat.le_refl _)
  obtain ⟨P, hP, hn⟩ := hfl.num
  obtain ⟨h1, h2⟩ := crc_detects l m bit P hfl.len (by omega) (by simpa using hP) hn
  have HM := Lib.hid (HCm.out m hfl.len)
  obtain ⟨sm, hsm⟩ : ∃ s, bs m = s := ⟨_, rfl⟩
  rw [hsm] at HM
  rw [hsm]
  by_cases hp : P = 0
  · have e1 : sl = sm := by rw [← HS.out, ← hsm, h1.2 hp]
    have e2 : ((crc l : Nat) : Int) = (crc m : Nat) := by rw [h2.2 hp]
    have t1 : (sl.toList == sm.toList) = true := bytes_beq.2 e1
    have t2 : (((crc l : Nat) : Int) == ((crc m : Nat) : Int)) = true := by rw [e2]; simp
    clear e1 e2 h1 h2 hp hn hP hfl hsm
    go_wp2_with fail
    refine (HC.out _).mono ?_; rintro e w3 ⟨rfl, b3⟩
    replace b3 := chain b2 b3 (Nat.le_refl _)
    go_wp2_with fail
    refine (HM.out _).mono ?_; rintro e w4 ⟨rfl, b4⟩
    replace b4 := chain b3 b4 (Nat.le_refl _)
    go_wp2_with fail
    go_ret
    exact ⟨rfl, b4⟩
  · have t1 : (sl.toList == sm.toList) = false := by
      rw [Bool.eq_false_iff]; intro h
      have := bytes_beq.1 h
      rw [← HS.out, ← hsm] at this
      exact hp (h1.1 (bs_inj this))
    have t2 : (((crc l : Nat) : Int) == ((crc m : Nat) : Int)) = false := by
      rw [Bool.eq_false_iff]; intro h
      exact hp (h2.1 (Int.ofNat_inj.1 (eq_of_beq h)))
    clear h1 h2 hp hn hP hfl hsm
    go_wp2_with fail
    refine (HC.out _).mono ?_; rintro e w3 ⟨rfl, b3⟩
    replace b3 := chain b2 b3 (Nat.le_refl _)
    go_wp2_with fail
    refine (HM.out _).mono ?_; rintro e w4 ⟨rfl, b4⟩
    replace b4 := chain b3 b4 (Nat.le_refl _)
    go_wp2_with fail
    go_ret
    exact ⟨rfl, b4⟩

set_option maxRecDepth 100000 in
set_option maxHeartbeats 2000000 in
theorem residueD (l : List UInt8) (w : World) (hl : l.length ≤ 2000) (hL : L w) :
    Calls Tryd.prog 6 #[.string (bs l)] w fun e w' => e = .returned (.bool true) ∧ Below w.heap.size w w' := by
  have HSm := Lib.hid (fun w (hL : L w) => smallD D w hL)
  have HK := Lib.hid (D.keep w)
  have hC := fun w => D.crc l w (by omega)
  have hlt := crc_lt l
  have hres := crc_residue l
  obtain ⟨c, hc⟩ : ∃ c, crc l = c := ⟨_, rfl⟩
  simp only [hc] at hC hlt hres
  clear hc
  have hC2 := fun (m : List UInt8) (hm : m.length = 4) w => D.crc (l ++ m) w (by rw [List.length_append]; omega)
  have hn : num [UInt8.ofNat (c % 256), UInt8.ofNat (c / 256 % 256), UInt8.ofNat (c / 65536 % 256), UInt8.ofNat (c / 16777216)] = c := by
    simp only [num]
    rw [u8_of (by omega), u8_of (by omega), u8_of (by omega), u8_of (by omega)]; omega
  have hcl : cl [UInt8.ofNat (c % 256), UInt8.ofNat (c / 256 % 256), UInt8.ofNat (c / 65536 % 256), UInt8.ofNat (c / 16777216)] = [.int .u8 ((c : Int) % 256), .int .u8 ((c : Int) / 256 % 256), .int .u8 ((c : Int) / 65536 % 256), .int .u8 ((c : Int) / 16777216)] := by
    simp only [cl, List.map_cons, List.map_nil]
    rw [u8_of (by omega), u8_of (by omega), u8_of (by omega), u8_of (by omega)]; rfl
  obtain ⟨m, hm⟩ : ∃ m, [UInt8.ofNat (c % 256), UInt8.ofNat (c / 256 % 256), UInt8.ofNat (c / 65536 % 256), UInt8.ofNat (c / 16777216)] = m := ⟨_, rfl⟩
  have hm4 : m.length = 4 := by rw [← hm]; rfl
  rw [hm] at hn hcl
  have hcrc := hres m hm4 hn
  have hC3 := hC2 m hm4
  simp only [hcrc] at hC3
  have hcv : ∀ W : World, (convert 30 9 (.slice (some ⟨W.heap.size, 0, none⟩) 4 4)).run Tryd.prog (W.alloc (.cells #[.int .u8 ((c : Int) % 256), .int .u8 ((c : Int) / 256 % 256), .int .u8 ((c : Int) / 65536 % 256), .int .u8 ((c : Int) / 16777216)] 5)) = .ok (.string (bs m)) (W.alloc (.cells #[.int .u8 ((c : Int) % 256), .int .u8 ((c : Int) / 256 % 256), .int .u8 ((c : Int) / 65536 % 256), .int .u8 ((c : Int) / 16777216)] 5)) := fun W => by
    have ho := World.ownsRow_lit (base := W.heap.size) (e := 5) (size := 1) W #[.int .u8 ((c : Int) % 256), .int .u8 ((c : Int) / 256 % 256), .int .u8 ((c : Int) / 65536 % 256), .int .u8 ((c : Int) / 16777216)] 4 (Nat.le_refl _) (by unfold maxLen; omega) rfl
    rw [show (#[Value.int .u8 ((c : Int) % 256), .int .u8 ((c : Int) / 256 % 256), .int .u8 ((c : Int) / 65536 % 256), .int .u8 ((c : Int) / 16777216)] : Array Value).toList = cl m from hcl.symm] at ho
    exact conv_any ho
  have hz : (bs l).size ≤ 2000 := by rw [bs_size]; exact hl
  have hadd := fun w => run_string_add_sum (P := Tryd.prog) (w := w) (bs l) (bs m) (by rw [bs_size, bs_size]; omega)
  rw [bs_append] at hadd
  have HC := Lib.hid hC; clear hC
  have HC3 := Lib.hid hC3; clear hC3
  obtain ⟨sl, hsl⟩ : ∃ s, bs l = s := ⟨_, rfl⟩
  obtain ⟨sm, hsm⟩ : ∃ s, bs m = s := ⟨_, rfl⟩
  obtain ⟨sx, hsx⟩ : ∃ s, bs (l ++ m) = s := ⟨_, rfl⟩
  rw [hsl] at HC hz
  simp only [hsm] at hcv
  simp only [hsl, hsm, hsx] at hadd
  rw [hsx] at HC3
  rw [hsl]
  clear hsl hsm hsx hm hn hcl hres hC2 hcrc D
  go_enter Tryd.func6, Tryd.ntmps6
  go_wp2_with fail
  refine (HSm.out _ hL).mono ?_; rintro e w1 ⟨rfl, b1⟩
  go_wp2_with fail
  refine (HC.out _).mono ?_; rintro e w2 ⟨rfl, b2⟩
  replace b2 := chain b1 b2 (Nat.le_refl _)
  go_wp2_with fail
  refine (HC3.out _).mono ?_; rintro e w3 ⟨rfl, b3⟩
  replace b3 := (b2.alloc b2.size _).trans (b3.mono (by simp; have := b2.size; omega))
  go_wp2_with fail
  go_ret
  exact ⟨rfl, b3⟩
end
end Go.Proofs.YtcekmedfphmpcaaDoor
