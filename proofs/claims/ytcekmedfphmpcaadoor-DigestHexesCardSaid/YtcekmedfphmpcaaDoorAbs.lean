/-
  Contract of the program's absorb.
-/
import Derived.Test.YtcekmedfphmpcaaDoorLane
namespace Go.Proofs.YtcekmedfphmpcaaDoor
set_option linter.unusedVariables false
set_option linter.unusedSimpArgs false
open Go.RowKit

theorem laneOf_drop (l : List UInt8) (k : Nat) : laneOf (nl (l.drop k)) 0 = laneOf (nl l) (0 + k) := by
  unfold laneOf
  rw [List.drop_zero, Nat.zero_add]
  congr 2
  simp [nl, List.map_drop]

set_option maxRecDepth 100000 in
set_option maxHeartbeats 2000000 in
theorem absP (g : Nat) (a : List Nat) (l : List UInt8) (w : World) (hs : St w g a) (ha : lanes a) (hl : l.length = 136) (hL : Laid w) (hg : g ≠ 2 ∧ g ≠ 0) :
    Calls Tryd.prog 23 #[.pointer (some ⟨g, 0, none⟩), .string (bs l)] w fun e w' => e = .returned (.tuple #[]) ∧ St w' g (absorb a (nl l) 0) ∧ w.grownBy w' (some g) := by
  obtain ⟨s, hS⟩ : ∃ s, bs l = s := ⟨_, rfl⟩
  have hsz : s.size = 136 := by rw [← hS, bs_size, hl]
  have hdrop : ∀ k, k + 8 ≤ 136 → ∀ w, Calls Tryd.prog 31 #[.string (s.extract k s.size)] w fun e w' => e = .returned (.int .u64 (laneOf (nl l) (0 + k) : Nat)) ∧ w = w' := fun k hk w => by
    have h := laneP (l.drop k) w (by rw [List.length_drop]; omega) (by rw [List.length_drop]; omega)
    rw [laneOf_drop, ← bs_drop, hS] at h
    exact h
  rw [hS]
  rw [hsz] at hdrop
  have HD := Lib.hid hdrop; clear hdrop hS
  have HA := Lib.hid ha; clear ha
  have HG := Lib.hid hg; clear hg
  have HLL := Lib.hid hL; clear hL
  go_enter Tryd.func23, Tryd.ntmps23
  go_wp2_with fail
  go_loopw [5] (fun i wl => ∃ n : Nat, n ≤ 17 ∧ i = .int .i64 n ∧ St wl g (takeIn a (nl l) 0 n) ∧ w.grownBy wl (some g)) (fun i _ => 17 - (intOf i).toNat)
  case atStart => exact ⟨0, by omega, rfl, by rw [takeIn_zero HA.out.1]; exact hs, World.grownBy.refl _ _⟩
  case round =>
    obtain ⟨n, hn, rfl, hsg, hgr⟩ := hrel
    by_cases hlt : n < 17
    · have ca := hsg.cell n (by simp [takeIn]; omega)
      have fa := hsg.free n
      have hal := lat_lt64 (lanes_takeIn HA.out l 0 n).2 n
      have hll := laneOf_lt l (0 + 8 * n)
      have HLN := Lib.hid (HD.out (8 * n) (by omega))
      have hxor := bits_xor_u64_nat _ _ hal hll
      have hst := hsg.store n (lat (takeIn a (nl l) 0 n) n ^^^ laneOf (nl l) (0 + 8 * n))
      rw [← takeIn_succ a (nl l) 0 n (by omega)] at hst
      have hgr2 := gr_set hgr n (.int .u64 ((lat (takeIn a (nl l) 0 n) n ^^^ laneOf (nl l) (0 + 8 * n) : Nat) : Int))
      obtain ⟨va, hva⟩ : ∃ m, lat (takeIn a (nl l) 0 n) n = m := ⟨_, rfl⟩
      obtain ⟨vl, hvl⟩ : ∃ m, laneOf (nl l) (0 + 8 * n) = m := ⟨_, rfl⟩
      rw [hva] at ca hxor hst hgr2
      rw [hvl] at hxor hst HLN hgr2
      obtain ⟨vx, hvx⟩ : ∃ m, va ^^^ vl = m := ⟨_, rfl⟩
      rw [hvx] at hxor hst hgr2
      clear hva hvl hvx hal hll
      have HST := Lib.hid hst; clear hst
      have HGR := Lib.hid hgr2; clear hgr2
      clear hsg
      have q0 : (0 : Int) ≤ n := by omega
      have q1 : (n : Int) < 25 := by omega
      have q2 : IntKind.i64.wrap (8 * (n : Int)) = 8 * n := IntWalk.i64_in _ (by omega)
      have q3 : (0 : Int) ≤ 8 * (n : Int) := by omega
      have q4 : 8 * (n : Int) ≤ 136 := by omega
      have q5 : (8 * (n : Int)).toNat = 8 * n := by omega
      go_wp2_with fail
      go_region_law (first
        | (go_simp; go_at_call 31; (refine (HLN.out _).mono ?_); rintro e w' ⟨rfl, rfl⟩))
      all_goals
        clear q2 q3 q4 q5 hxor
        go_wp2_with fail
        go_roundw
        case rel => exact ⟨n + 1, by omega, by go_num, HST.out, gr_drew HGR.out⟩
        case measure => simp [intOf]; omega
    · obtain rfl : n = 17 := by omega
      rw [show (((17 : Nat) : Int)) = 17 from rfl]
      have HP := Lib.hid (permP g (takeIn a (nl l) 0 17) wr hsg (lanes_takeIn HA.out l 0 17) (HLL.out.grown hgr HG.out) HG.out)
      go_wp2_with fail
      refine HP.out.mono ?_; rintro e w1 ⟨rfl, hs1, hg1⟩
      go_wp2_with fail
      go_end0
      exact ⟨rfl, hs1, hgr.trans hg1⟩
end Go.Proofs.YtcekmedfphmpcaaDoor
