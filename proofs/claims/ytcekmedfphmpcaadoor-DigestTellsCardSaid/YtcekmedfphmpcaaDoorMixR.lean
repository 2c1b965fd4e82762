/-
  Contract of the program's mixRows.
-/
import Derived.Test.YtcekmedfphmpcaaDoorState
namespace Go.Proofs.YtcekmedfphmpcaaDoor
set_option linter.unusedVariables false
set_option linter.unusedSimpArgs false
open Go.RowKit

theorem chi_eqs3 {n0 n1 n2 : Nat} (h0 : n0 < 18446744073709551616) (h1 : n1 < 18446744073709551616) (h2 : n2 < 18446744073709551616) : ∃ m v : Nat,
    bits .xor .u64 (if IntKind.u64.signed = true then -1 else IntKind.u64.max) (n1 : Int) = (m : Int) ∧ bits .and .u64 (m : Int) (n2 : Int) = (v : Int) ∧ bits .xor .u64 (n0 : Int) (v : Int) = ((n0 ^^^ ((18446744073709551615 - n1) &&& n2) : Nat) : Int) := by
  refine ⟨18446744073709551615 - n1, (18446744073709551615 - n1) &&& n2, ?_, bits_and_u64_nat _ _ (by omega) h2, bits_xor_u64_nat _ _ h0 (Nat.lt_of_le_of_lt Nat.and_le_right h2)⟩
  have hs : (if IntKind.u64.signed = true then -1 else IntKind.u64.max) = IntKind.u64.max := by decide
  rw [hs, bits_not_u64 _ h1]; omega
theorem St.of_heap {w w' : World} {g : Nat} {A : List Nat} (h : St w g A) (e : w'.heap = w.heap) : St w' g A := by unfold St; rw [e]; exact h
theorem chi5 (B : List Nat) (n : Nat) (hn : n % 5 = 0) : chi B n = lat B n ^^^ ((18446744073709551615 - lat B (n + 1)) &&& lat B (n + 2)) ∧ chi B (n + 1) = lat B (n + 1) ^^^ ((18446744073709551615 - lat B (n + 2)) &&& lat B (n + 3)) ∧
    chi B (n + 2) = lat B (n + 2) ^^^ ((18446744073709551615 - lat B (n + 3)) &&& lat B (n + 4)) ∧ chi B (n + 3) = lat B (n + 3) ^^^ ((18446744073709551615 - lat B (n + 4)) &&& lat B n) ∧ chi B (n + 4) = lat B (n + 4) ^^^ ((18446744073709551615 - lat B n) &&& lat B (n + 1)) := by
  have e : ∀ j, j < 5 → (n + j) % 5 = j ∧ (n + j) / 5 = n / 5 ∧ 5 * (n / 5) = n := fun j hj => by omega
  obtain ⟨a0, b0, c0⟩ := e 0 (by omega)
  obtain ⟨a1, b1, _⟩ := e 1 (by omega)
  obtain ⟨a2, b2, _⟩ := e 2 (by omega)
  obtain ⟨a3, b3, _⟩ := e 3 (by omega)
  obtain ⟨a4, b4, _⟩ := e 4 (by omega)
  rw [Nat.add_zero] at a0 b0
  unfold chi
  rw [a0, a1, a2, a3, a4, b1, b2, b3, b4, c0]
  refine ⟨?_, ?_, ?_, ?_, ?_⟩ <;> simp only [Nat.reduceAdd, Nat.reduceMod, Nat.add_comm, Nat.zero_add, Nat.add_zero]

set_option maxRecDepth 100000 in
set_option maxHeartbeats 4000000 in
theorem mixR (g h : Nat) (a b : List Nat) (w : World) (hs : St w g a) (hb : St w h b) (ha : a.length = 25) (hbl : lanes b) (hne : g ≠ h) :
    Calls Tryd.prog 38 #[.pointer (some ⟨g, 0, none⟩), .pointer (some ⟨h, 0, none⟩)] w fun e w' => e = .returned (.tuple #[]) ∧ St w' g (chiL b) ∧ w.grownBy w' (some g) := by
  obtain ⟨hb25, hbl⟩ := hbl
  have HBL := Lib.hid hbl; clear hbl
  go_enter Tryd.func38, Tryd.ntmps38
  go_wp2_with fail
  go_loopw [4] (fun i wl => ∃ r : Nat, r ≤ 5 ∧ i = .int .i64 ((5 * r : Nat) : Int) ∧ St wl g (fillK (chi b) (lat a) 25 (5 * r)) ∧ St wl h b ∧ w.grownBy wl (some g)) (fun i _ => 25 - (intOf i).toNat)
  case atStart => exact ⟨0, by omega, rfl, by rw [← ha, fillK_zero]; exact hs, hb, World.grownBy.refl _ _⟩
  case round =>
    obtain ⟨r, hr, rfl, hsg, hsb, hgr⟩ := hrel
    by_cases hlt : r < 5
    · obtain ⟨n, hn⟩ : ∃ n, 5 * r = n := ⟨_, rfl⟩
      rw [hn] at hsg
      rw [hn]
      have hn20 : n ≤ 20 := by omega
      have hn5 : n % 5 = 0 := by omega
      have HN := Lib.hid hn
      have c0 := hsb.cell n (by omega)
      have c1 := hsb.cell (n + 1) (by omega)
      have c2 := hsb.cell (n + 2) (by omega)
      have c3 := hsb.cell (n + 3) (by omega)
      have c4 := hsb.cell (n + 4) (by omega)
      have l := lat_lt64 HBL.out
      obtain ⟨m0, a0, n0, d0, x0⟩ := chi_eqs3 (l n) (l (n + 1)) (l (n + 2))
      obtain ⟨m1, a1, n1, d1, x1⟩ := chi_eqs3 (l (n + 1)) (l (n + 2)) (l (n + 3))
      obtain ⟨m2, a2, n2, d2, x2⟩ := chi_eqs3 (l (n + 2)) (l (n + 3)) (l (n + 4))
      obtain ⟨m3, a3, n3, d3, x3⟩ := chi_eqs3 (l (n + 3)) (l (n + 4)) (l n)
      obtain ⟨m4, a4, n4, d4, x4⟩ := chi_eqs3 (l (n + 4)) (l n) (l (n + 1))
      obtain ⟨k0, k1, k2, k3, k4⟩ := chi5 b n hn5
      rw [← k0] at x0
      rw [← k1] at x1
      rw [← k2] at x2
      rw [← k3] at x3
      rw [← k4] at x4
      clear k0 k1 k2 k3 k4 l
      obtain ⟨v0, h0⟩ : ∃ v, lat b n = v := ⟨_, rfl⟩
      obtain ⟨v1, h1⟩ : ∃ v, lat b (n + 1) = v := ⟨_, rfl⟩
      obtain ⟨v2, h2⟩ : ∃ v, lat b (n + 2) = v := ⟨_, rfl⟩
      obtain ⟨v3, h3⟩ : ∃ v, lat b (n + 3) = v := ⟨_, rfl⟩
      obtain ⟨v4, h4⟩ : ∃ v, lat b (n + 4) = v := ⟨_, rfl⟩
      rw [h0] at c0 n4 d3 x0
      rw [h1] at c1 n0 d4 x1
      rw [h2] at c2 n1 d0 x2
      rw [h3] at c3 n2 d1 x3
      rw [h4] at c4 n3 d2 x4
      clear h0 h1 h2 h3 h4
      clear hn
      have q0 : (0 : Int) ≤ n := by omega
      have q1 : IntKind.i64.wrap ((n : Int) + 1) = n + 1 := IntWalk.i64_in _ (by omega)
      have q2 : IntKind.i64.wrap ((n : Int) + 2) = n + 2 := IntWalk.i64_in _ (by omega)
      have q3 : IntKind.i64.wrap ((n : Int) + 3) = n + 3 := IntWalk.i64_in _ (by omega)
      have q4 : IntKind.i64.wrap ((n : Int) + 4) = n + 4 := IntWalk.i64_in _ (by omega)
      have r0 : (n : Int) < 25 := by omega
      have r1 : (n : Int) + 1 < 25 := by omega
      have r2 : (n : Int) + 2 < 25 := by omega
      have r3 : (n : Int) + 3 < 25 := by omega
      have r4 : (n : Int) + 4 < 25 := by omega
      have t1 : (0 : Int) ≤ (n : Int) + 1 := by omega
      have t2 : (0 : Int) ≤ (n : Int) + 2 := by omega
      have t3 : (0 : Int) ≤ (n : Int) + 3 := by omega
      have t4 : (0 : Int) ≤ (n : Int) + 4 := by omega
      have u1 : ((n : Int) + 1).toNat = n + 1 := by omega
      have u2 : ((n : Int) + 2).toNat = n + 2 := by omega
      have u3 : ((n : Int) + 3).toNat = n + 3 := by omega
      have u4 : ((n : Int) + 4).toNat = n + 4 := by omega
      go_wp2_with fail
      go_quiet (fail)
      obtain ⟨w2, hw2⟩ : ∃ w2, wr.drewN nq = w2 := ⟨_, rfl⟩
      have hh : w2.heap = wr.heap := by rw [← hw2]; exact World.heap_drewN _ _
      replace hsg := hsg.of_heap hh
      replace hsb := hsb.of_heap hh
      replace hgr : w.grownBy w2 (some g) := ⟨by rw [← hw2]; exact hgr.os, by rw [← hw2]; exact hgr.tape, by rw [← hw2]; exact hgr.output, by rw [hh]; exact hgr.size, fun i hi hne => by rw [hh]; exact hgr.block i hi hne⟩
      rw [hw2]
      clear hw2 hh c0 c1 c2 c3 c4
      have s1 := hsg.store n (chi b n)
      rw [← fillK_succ _ _ _ _ (by omega)] at s1
      have s2 := s1.store (n + 1) (chi b (n + 1))
      rw [← fillK_succ _ _ _ _ (by omega)] at s2
      have s3 := s2.store (n + 2) (chi b (n + 2))
      rw [← fillK_succ _ _ _ _ (by omega)] at s3
      have s4 := s3.store (n + 3) (chi b (n + 3))
      rw [← fillK_succ _ _ _ _ (by omega)] at s4
      have s5 := s4.store (n + 4) (chi b (n + 4))
      rw [← fillK_succ _ _ _ _ (by omega)] at s5
      have f0 := hsg.free n
      have f1 := hsg.free (n + 1)
      have f2 := hsg.free (n + 2)
      have f3 := hsg.free (n + 3)
      have f4 := hsg.free (n + 4)
      have fl : ∀ k, (fillK (chi b) (lat a) 25 k).length = 25 := fillK_length _ _ _
      have g0 := hsg.cell n (by rw [fl]; omega)
      have g1 := hsg.cell (n + 1) (by rw [fl]; omega)
      have g2 := hsg.cell (n + 2) (by rw [fl]; omega)
      have g3 := hsg.cell (n + 3) (by rw [fl]; omega)
      have g4 := hsg.cell (n + 4) (by rw [fl]; omega)
      have e1 := gr_set hgr n (.int .u64 (chi b n : Nat))
      have e2 := gr_set e1 (n + 1) (.int .u64 (chi b (n + 1) : Nat))
      have e3 := gr_set e2 (n + 2) (.int .u64 (chi b (n + 2) : Nat))
      have e4 := gr_set e3 (n + 3) (.int .u64 (chi b (n + 3) : Nat))
      have e5 := gr_set e4 (n + 4) (.int .u64 (chi b (n + 4) : Nat))
      have b5 := ((((hsb.other g n (.int .u64 (chi b n : Nat)) hne.symm).other g (n + 1) (.int .u64 (chi b (n + 1) : Nat)) hne.symm).other g (n + 2) (.int .u64 (chi b (n + 2) : Nat)) hne.symm).other g (n + 3) (.int .u64 (chi b (n + 3) : Nat)) hne.symm).other g (n + 4) (.int .u64 (chi b (n + 4) : Nat)) hne.symm
      clear s1 s2 s3 s4 e1 e2 e3 e4 fl
      obtain ⟨y0, h0⟩ : ∃ v, chi b n = v := ⟨_, rfl⟩
      obtain ⟨y1, h1⟩ : ∃ v, chi b (n + 1) = v := ⟨_, rfl⟩
      obtain ⟨y2, h2⟩ : ∃ v, chi b (n + 2) = v := ⟨_, rfl⟩
      obtain ⟨y3, h3⟩ : ∃ v, chi b (n + 3) = v := ⟨_, rfl⟩
      obtain ⟨y4, h4⟩ : ∃ v, chi b (n + 4) = v := ⟨_, rfl⟩
      rw [h0] at x0 s5 e5 b5
      rw [h1] at x1 s5 e5 b5
      rw [h2] at x2 s5 e5 b5
      rw [h3] at x3 s5 e5 b5
      rw [h4] at x4 s5 e5 b5
      clear h0 h1 h2 h3 h4
      obtain ⟨z0, h0⟩ : ∃ v, lat (fillK (chi b) (lat a) 25 n) n = v := ⟨_, rfl⟩
      obtain ⟨z1, h1⟩ : ∃ v, lat (fillK (chi b) (lat a) 25 n) (n + 1) = v := ⟨_, rfl⟩
      obtain ⟨z2, h2⟩ : ∃ v, lat (fillK (chi b) (lat a) 25 n) (n + 2) = v := ⟨_, rfl⟩
      obtain ⟨z3, h3⟩ : ∃ v, lat (fillK (chi b) (lat a) 25 n) (n + 3) = v := ⟨_, rfl⟩
      obtain ⟨z4, h4⟩ : ∃ v, lat (fillK (chi b) (lat a) 25 n) (n + 4) = v := ⟨_, rfl⟩
      rw [h0] at g0
      rw [h1] at g1
      rw [h2] at g2
      rw [h3] at g3
      rw [h4] at g4
      clear h0 h1 h2 h3 h4
      have HS5 := Lib.hid s5; clear s5 hsg hsb
      have HB5 := Lib.hid b5; clear b5
      have HE5 := Lib.hid e5; clear e5 hgr
      go_wp2_with fail
      go_roundw
      case rel => exact ⟨r + 1, by omega, by rw [← HN.out]; congr 1 <;> omega, by rw [show 5 * (r + 1) = n + 4 + 1 by have := HN.out; omega]; exact HS5.out, HB5.out, HE5.out⟩
      case measure => simp [intOf]; omega
    · obtain rfl : r = 5 := by omega
      have hf : fillK (chi b) (lat a) 25 (5 * 5) = chiL b := fillK_full _ _ _
      rw [hf] at hsg
      clear hf
      go_wp2_with fail
      go_end0
      exact ⟨rfl, hsg, hgr⟩
end Go.Proofs.YtcekmedfphmpcaaDoor
